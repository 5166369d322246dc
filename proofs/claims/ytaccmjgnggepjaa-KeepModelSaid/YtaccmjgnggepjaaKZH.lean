/-
  Package disk: what a crash leaves of a file.
-/
import Derived.Test.YtaccmjgnggepjaaKZG
import Derived.Laws.CopyOwn
namespace Go.Proofs.Ytaccmjgnggepjaa
open Go.RowKit

/-- a file of which the first sectors were written -/
def tornB (vis dur : List Int) (q : Int) : List Int :=
  (List.range vis.length).map fun i => if i < (q % (((max vis.length dur.length + 31) / 32 + 1 : Nat) : Int)).toNat * 32 then vis.getD i 0 else dur.getD i 0
def outl (vis dur : List Int) (p : Int) : List Int := if p % 3 = 0 then dur else if p % 3 = 1 then vis else tornB vis dur (p / 3)

theorem tdiv_floor (a b : Int) (hb : 0 < b) : (a.tmod b < 0 → a.tdiv b - 1 = a / b ∧ a.tmod b + b = a % b) ∧ (0 ≤ a.tmod b → a.tdiv b = a / b ∧ a.tmod b = a % b) := by
  have h0 := Int.mul_tdiv_add_tmod a b
  have h1 := Int.tmod_lt_of_pos a hb
  have h2 := Int.lt_tmod_of_pos a hb
  constructor
  · intro h
    have := (Int.ediv_emod_unique (a := a) (b := b) (q := a.tdiv b - 1) (r := a.tmod b + b) hb).2 ⟨by rw [Int.mul_sub]; omega, by omega, by omega⟩
    exact ⟨this.1.symm, this.2.symm⟩
  · intro h
    have := (Int.ediv_emod_unique (a := a) (b := b) (q := a.tdiv b) (r := a.tmod b) hb).2 ⟨by omega, by omega, by omega⟩
    exact ⟨this.1.symm, this.2.symm⟩

set_option maxHeartbeats 1000000 in
theorem divide_is (a b : Int) (w : World) (ha : -9223372036854775808 ≤ a ∧ a ≤ 9223372036854775807) (hb : 1 < b) (hb2 : b ≤ 1000000) :
    Calls Try.prog 71 #[.int .i64 a, .int .i64 b] w fun e w' => e = .returned (.tuple #[.int .i64 (a / b), .int .i64 (a % b)]) ∧ ∃ d, w' = w.drewN d := by
  have hf := tdiv_floor a b (by omega)
  have hq : -9223372036854775808 < a.tdiv b ∧ a.tdiv b ≤ 9223372036854775807 := by
    have h0 := Int.mul_tdiv_add_tmod a b
    have h1 := Int.tmod_lt_of_pos a (show 0 < b by omega)
    have h2 := Int.lt_tmod_of_pos a (show 0 < b by omega)
    have h3 : (a.tdiv b).natAbs = a.natAbs / b.natAbs := Int.natAbs_tdiv a b
    have h4 : a.natAbs / b.natAbs ≤ a.natAbs / 2 := Nat.div_le_div_left (by omega) (by omega)
    omega
  have hm1 := Int.tmod_lt_of_pos a (show 0 < b by omega)
  have hm2 := Int.lt_tmod_of_pos a (show 0 < b by omega)
  obtain ⟨q, hqq⟩ : ∃ q, a.tdiv b = q := ⟨_, rfl⟩
  obtain ⟨r, hrr⟩ : ∃ r, a.tmod b = r := ⟨_, rfl⟩
  rw [hqq, hrr] at hf
  rw [hqq] at hq
  rw [hrr] at hm1 hm2
  have hb0 : ¬ (b = 0) := by omega
  have HF := Lib.hid hf
  clear hf
  by_cases hr : r < 0
  · go_enter Try.func71, Try.ntmps71
    go_wp2
    go_quiet (fail)
    go_wp2
    go_ret2
    exact ⟨by rw [← (HF.out.1 hr).1, ← (HF.out.1 hr).2]; rfl, _, rfl⟩
  · go_enter Try.func71, Try.ntmps71
    go_wp2
    go_quiet (fail)
    go_wp2
    go_ret2
    have hr' : 0 ≤ r := by omega
    exact ⟨by rw [← (HF.out.2 hr').1, ← (HF.out.2 hr').2]; rfl, _, rfl⟩

theorem rd_list {w : World} {A : Option Addr} {xs : List Int} (h : Rd w A (u8s xs)) {n : Nat} (hn : xs.length = n) : Lib.BytesIn w A n xs := fun h0 => by
  obtain ⟨b, off, e, _, hc⟩ := h.open_ (by rw [u8s_length]; omega)
  exact ⟨b, off, e, fun i hi => by rw [hc i _ (u8s_at (by omega)), List.getD_eq_getElem?_getD]⟩
theorem bytes_inj {x y : List Int} (hx : Byts x) (hy : Byts y) (h : Lib.bytesOf x = Lib.bytesOf y) : x = y := by
  induction x generalizing y with
  | nil => cases y with
    | nil => rfl
    | cons _ _ => simp [Lib.bytesOf] at h
  | cons a x ih => cases y with
    | nil => simp [Lib.bytesOf] at h
    | cons b y =>
      simp only [Lib.bytesOf, List.map_cons, List.cons.injEq] at h
      have ha := hx.head
      have hb := hy.head
      unfold Byt at ha hb
      have h1 : a = b := by
        have h0 := congrArg UInt8.toNat h.1
        rw [UInt8.toNat_ofNat', UInt8.toNat_ofNat'] at h0
        omega
      rw [h1, ih hx.tail hy.tail h.2]
/-- bytes.Equal -/
theorem bequal_is (b : Bool) (A A' : Option Addr) (n c n' c' : Nat) (xs ys : List Int) (w : World) (hn : xs.length = n) (hn' : ys.length = n') (hr : Rd w A (u8s xs)) (hr' : Rd w A' (u8s ys)) (hx : Byts xs) (hy : Byts ys) (hb : decide (xs = ys) = b) :
    Calls Try.prog 53 #[.slice A n c, .slice A' n' c'] w fun e w' => e = .returned (.bool b) ∧ w = w' := by
  refine (Try.bytes_Equal_all A A' n c n' c' xs ys w hn hn' (rd_list hr hn) (rd_list hr' hn')).mono ?_
  rintro e w' ⟨rfl, rfl⟩
  refine ⟨?_, rfl⟩
  congr 2
  rw [← hb, Bool.eq_iff_iff]
  simp only [beq_iff_eq, decide_eq_true_eq]
  exact ⟨fun h => bytes_inj hx hy h, fun h => by rw [h]⟩

theorem torn_list (vis dur : List Int) (nV k : Nat) (hV : vis.length = nV) (hk : k ≤ nV) (M : Array Value) (hM : M.toList = List.replicate nV (.int .u8 0)) :
    (over (over M 0 (u8s (dur.take nV))) 0 (u8s (vis.take k))).toList = u8s ((List.range nV).map fun i => if i < k then vis.getD i 0 else dur.getD i 0) := by
  have hMl : M.size = nV := by have := congrArg List.length hM; simpa using this
  rw [over_list, over_list, hM]
  apply List.ext_getElem?
  intro i
  simp only [u8s, List.take_zero, List.nil_append, Nat.zero_add, List.getElem?_append, List.getElem?_drop, List.getElem?_map, List.length_map, List.length_take, List.getElem?_take, List.getElem?_replicate]
  rcases Nat.lt_or_ge i nV with hi | hi
  · have hiv : i < vis.length := by omega
    rcases Nat.lt_or_ge i k with h1 | h1
    · rw [if_pos (by omega), if_pos h1, List.getElem?_range hi]
      simp only [Option.map_some, List.getD_eq_getElem?_getD, List.getElem?_eq_getElem hiv, Option.getD_some, h1, if_true]
    · rw [if_neg (by omega), Nat.min_eq_left (by omega : k ≤ vis.length), show k + (i - k) = i by omega, List.getElem?_range hi]
      simp only [Option.map_some, Nat.not_lt.2 h1, if_false]
      rcases Nat.lt_or_ge i dur.length with h2 | h2
      · rw [if_pos (by omega), if_pos hi, List.getD_eq_getElem?_getD, List.getElem?_eq_getElem h2]
        rfl
      · rw [if_neg (by omega), Nat.min_eq_right (by omega : dur.length ≤ nV), show dur.length + (i - dur.length) = i by omega, if_pos hi, List.getD_eq_getElem?_getD, List.getElem?_eq_none h2]
        rfl
  · rw [List.getElem?_eq_none (l := List.range nV) (by simpa using hi)]
    simp only [Option.map_none]
    repeat' split
    all_goals first | rfl | (exfalso; omega)

set_option maxHeartbeats 2000000 in
theorem torn_facts (AV AD : Option Addr) (cD nV nD k : Nat) (vis dur : List Int) (w : World) (hV : vis.length = nV) (hD : dur.length = nD) (hrV : Rd w AV (u8s vis)) (hrD : Rd w AD (u8s dur)) (hnV : nV ≤ 1048576) (hk : k ≤ nV) :
    ∃ w3 w4 w5, (Instr.makeSlice 48 (.int .i64 nV) (.int .i64 nV)).run Try.prog w = .ok (.slice (some ⟨w.heap.size, 0, none⟩) nV nV) w3 ∧
      (∀ ty, (Builtin.copy_ #[48, 48] ty #[.slice (some ⟨w.heap.size, 0, none⟩) nV nV, .slice AD nD cD]).run Try.prog w3 = .ok (goInt ((min nD nV : Nat) : Int)) w4) ∧
      (∀ ty cc, (Builtin.copy_ #[48, 48] ty #[.slice (some ⟨w.heap.size, 0, none⟩) nV nV, .slice AV k cc]).run Try.prog w4 = .ok (goInt (k : Int)) w5) ∧
      w5.ownsRow w.heap.size 5 1 (.slice (some ⟨w.heap.size, 0, none⟩) nV nV) nV (u8s ((List.range nV).map fun i => if i < k then vis.getD i 0 else dur.getD i 0)) ∧ Below w.heap.size w w3 ∧ Below w.heap.size w w4 ∧ Below w.heap.size w w5 := by
  obtain ⟨i0, hi0, hz0, hz1, hz2⟩ := info_parts info_u8
  obtain ⟨M, hM⟩ : ∃ M, M = madeCells (Value.int .u8 0).cells (((nV : Nat) : Int).toNat * i0.size) := ⟨_, rfl⟩
  have hMl : M.toList = List.replicate nV (.int .u8 0) := by
    rw [hM, hz1, Int.toNat_natCast, Nat.mul_one]
    exact toList_madeCells_one _ _
  have hMs : M.size = nV := by have := congrArg List.length hMl; simpa using this
  have hmk := run_make (P := Try.prog) w 48 5 i0 (.int .u8 0) Try.underlying48 hi0 hz0 .i64 .i64 (nV : Int) (nV : Int) (by omega) (by omega) (by rw [hz2]; omega) (by omega)
  rw [← hM] at hmk
  obtain ⟨w3, hw3⟩ : ∃ w3, w3 = w.alloc (.cells M 5) := ⟨_, rfl⟩
  have hg3 : w3.heap[w.heap.size]? = some (.cells M 5 (0, 0)) := by rw [hw3]; exact heap_alloc_new w _
  have hb3 : Below w.heap.size w w3 := by rw [hw3]; exact (Below.refl _ _).alloc (Nat.le_refl _) _
  obtain ⟨M1, hM1⟩ : ∃ M1, M1 = over M 0 (u8s (dur.take nV)) := ⟨_, rfl⟩
  obtain ⟨w4, hw4⟩ : ∃ w4, w4 = w3.setRow w.heap.size M1 := ⟨_, rfl⟩
  have hl1 : (u8s (dur.take nV)).length = min nD nV := by rw [u8s_length, List.length_take, hD, Nat.min_comm]
  have hM1s : M1.size = M.size := by rw [hM1]; exact over_size (by rw [hl1, hMs]; omega)
  have hg4 : w4.heap[w.heap.size]? = some (.cells M1 5 (0, 0)) := by rw [hw4, hM1]; exact row_over _ hg3 _ _
  have hb4 : Below w.heap.size w w4 := by rw [hw4]; exact below_setRow hb3 (Nat.le_refl _) _
  obtain ⟨M2, hM2⟩ : ∃ M2, M2 = over M1 0 (u8s (vis.take k)) := ⟨_, rfl⟩
  obtain ⟨w5, hw5⟩ : ∃ w5, w5 = w4.setRow w.heap.size M2 := ⟨_, rfl⟩
  have hl2 : (u8s (vis.take k)).length = k := by rw [u8s_length, List.length_take, hV]; omega
  have hM2s : M2.size = M1.size := by rw [hM2]; exact over_size (by rw [hl2, hM1s, hMs]; omega)
  have hg5 : w5.heap[w.heap.size]? = some (.cells M2 5 (0, 0)) := by rw [hw5, hM2]; exact row_over _ hg4 _ _
  have hb5 : Below w.heap.size w w5 := by rw [hw5]; exact below_setRow hb4 (Nat.le_refl _) _
  refine ⟨w3, w4, w5, by rw [hw3]; simpa using hmk, fun ty => ?_, fun ty cc => ?_, ?_, hb3, hb4, hb5⟩
  · have := run_copy_in (P := Try.prog) w3 (t := 48) (ty := ty) Try.underlying48 hi0 hg3 (o := 0) (D := some ⟨w.heap.size, 0, none⟩) (A := AD) (dn := nV) (dc := nV) (k := nD) (kc := cD) (m := min nD nV) (cs := u8s (dur.take nV)) rfl (by rw [hz1, hl1, Nat.mul_one]) (fun h0 => by
      obtain ⟨b, off, e, hbl, hc⟩ := (hrD.below hb3).open_ (by rw [u8s_length, hD]; omega)
      refine ⟨rfl, _, e, fun j v hj => ?_⟩
      rw [Addr.add_lit]
      refine hc j v ?_
      rw [show u8s (dur.take nV) = (u8s dur).take nV by simp [u8s, List.map_take]] at hj
      rw [List.getElem?_take] at hj
      split at hj
      · exact hj
      · cases hj) (by rw [hz1, hMs]; omega) (u8s_one _)
    rw [← hM1, ← hw4] at this
    exact this
  · have := run_copy_in (P := Try.prog) w4 (t := 48) (ty := ty) Try.underlying48 hi0 hg4 (o := 0) (D := some ⟨w.heap.size, 0, none⟩) (A := AV) (dn := nV) (dc := nV) (k := k) (kc := cc) (m := k) (cs := u8s (vis.take k)) (Nat.min_eq_left hk) (by rw [hz1, hl2, Nat.mul_one]) (fun h0 => by
      obtain ⟨b, off, e, hbl, hc⟩ := (hrV.below hb4).open_ (by rw [u8s_length, hV]; omega)
      refine ⟨rfl, _, e, fun j v hj => ?_⟩
      rw [Addr.add_lit]
      refine hc j v ?_
      rw [show u8s (vis.take k) = (u8s vis).take k by simp [u8s, List.map_take]] at hj
      rw [List.getElem?_take] at hj
      split at hj
      · exact hj
      · cases hj) (by rw [hz1, hM1s, hMs]; omega) (u8s_one _)
    rw [← hM2, ← hw5] at this
    exact this
  · refine row_shut (cur := M2) hg5 (Nat.le_refl _) (Nat.le_refl _) (by unfold maxLen; omega) (by rw [hM2s, hM1s, hMs, Nat.mul_one]) ?_
    rw [hM2, hM1, torn_list vis dur nV k hV hk M hMl]
    exact List.take_of_length_le (by simp [u8s])

set_option maxRecDepth 100000 in
set_option maxHeartbeats 4000000 in
theorem torn_is (nm : ByteArray) (AV AD : Option Addr) (cV cD nV nD : Nat) (vis dur : List Int) (sm q : Int) (w : World) (hV : vis.length = nV) (hD : dur.length = nD) (hrV : Rd w AV (u8s vis)) (hrD : Rd w AD (u8s dur)) (hnV : nV ≤ 1048576) (hnD : nD ≤ 1048576) (hcV : nV ≤ cV) (h0 : 0 < max nV nD)
    (hq : -9223372036854775808 ≤ q ∧ q ≤ 9223372036854775807) :
    Calls Try.prog 72 #[.agg #[.string nm, .slice AV nV cV, .slice AD nD cD, .int .i64 sm], .int .i64 q] w (Made w.heap.size 5 w (u8s (tornB vis dur q))) := by
  have HV := Lib.hid hV
  have HDU := Lib.hid hD
  clear hV hD
  obtain ⟨S, hS⟩ : ∃ S : Nat, S = (max nV nD + 31) / 32 + 1 := ⟨_, rfl⟩
  have hS1 : ((max (nV : Int) (nD : Int) + 32 - 1) / 32 + 1) = (S : Int) := by omega
  have hS2 : 1 < S ∧ S ≤ 1000000 := by omega
  obtain ⟨mm, hmm⟩ : ∃ mm : Nat, q % (S : Int) = (mm : Int) := ⟨(q % (S : Int)).toNat, by have := Int.emod_nonneg q (show (S : Int) ≠ 0 by omega); omega⟩
  have hmS : mm < S := by have := Int.emod_lt_of_pos q (show (0 : Int) < (S : Int) by omega); omega
  have hcon : ∀ w, Calls Try.prog 71 #[.int .i64 q, .int .i64 ((max (nV : Int) (nD : Int) + 32 - 1) / 32 + 1)] w fun e w' => e = .returned (.tuple #[.int .i64 (q / (S : Int)), .int .i64 (mm : Int)]) ∧ ∃ d, w' = w.drewN d := fun w => by
    rw [hS1, ← hmm]
    exact divide_is q S w hq (by omega) (by omega)
  obtain ⟨k, hk⟩ : ∃ k, k = min (mm * 32) nV := ⟨_, rfl⟩
  have hkm : min ((mm : Int) * 32) (nV : Int) = (k : Int) := by omega
  have hkV : k ≤ nV := by omega
  have hlist : ((List.range nV).map fun i => if i < k then vis.getD i 0 else dur.getD i 0) = tornB vis dur q := by
    unfold tornB
    rw [HV.out, HDU.out, ← hS, hmm, Int.toNat_natCast]
    apply List.map_congr_left
    intro i hi
    have hi' : i < nV := by simpa using hi
    by_cases h : i < mm * 32
    · rw [if_pos (by omega), if_pos h]
    · rw [if_neg (by omega), if_neg h]
  have HC := Lib.hid hcon
  have HL := Lib.hid hlist
  have hkV2 : (k : Int) ≤ (cV : Int) := by omega
  have hmm32 : mm ≤ 1000000 := by omega
  clear hcon hlist hS hS1 hS2 hmm hmS hk h0
  go_enter Try.func72, Try.ntmps72
  go_wp2_with fail
  refine (HC.out _).mono ?_
  rintro e w2 ⟨rfl, d, hw2⟩
  have hb2 : Below w.heap.size w w2 := by rw [hw2]; exact below_n ((Below.refl _ _).alloc (Nat.le_refl _) _) d
  have hbk2 : w2.heap[w.heap.size]? = some (.cells #[.string nm, .slice AV nV cV, .slice AD nD cD, .int .i64 sm] 82 (0, 0)) := by rw [hw2]; exact heap_alloc_new w _
  obtain ⟨gb, hgb⟩ : ∃ gb, gb = w.heap.size := ⟨_, rfl⟩
  have hgb2 : gb < w2.heap.size := by rw [hgb]; exact (Array.getElem?_eq_some_iff.1 hbk2).1
  rw [← hgb] at hbk2
  obtain ⟨w3, w4, w5, hmk, hcp1, hcp2, hown, hb3, hb4, hb5⟩ := torn_facts AV AD cD nV nD k vis dur w2 HV.out HDU.out (hrV.below hb2) (hrD.below hb2) hnV hkV
  rw [HL.out] at hown
  have HW5 : Hid (Made w.heap.size 5 w (u8s (tornB vis dur q)) (.returned (.slice (some ⟨w2.heap.size, 0, none⟩) nV nV)) w5) := ⟨_, rfl, own_cast (own_more hown hb2.size) (by rw [u8s_length, tornB, List.length_map, List.length_range, HV.out]), hb2.trans (hb5.mono hb2.size)⟩
  obtain ⟨N, hN⟩ : ∃ N, N = w2.heap.size := ⟨_, rfl⟩
  rw [← hN] at hmk hcp1 hcp2 HW5
  have h1 := hcp1 3
  have h2 := hcp2 3 cV
  have q1 : w2.cell? ⟨gb, 1, none⟩ = some (.slice AV nV cV) := cell_of_row w2 gb 1 _ _ _ hbk2
  have r2 : w3.cell? ⟨gb, 2, none⟩ = some (.slice AD nD cD) := (hb3.cell (p := ⟨gb, 2, none⟩) hgb2).trans (cell_of_row w2 gb 2 _ _ _ hbk2)
  have s1 : w4.cell? ⟨gb, 1, none⟩ = some (.slice AV nV cV) := (hb4.cell (p := ⟨gb, 1, none⟩) hgb2).trans q1
  rw [← hgb]
  clear hw2 hb2 hbk2 hown hb3 hb4 hb5 hcp1 hcp2 hgb2 hN hgb
  have i0 : (0 : Int) ≤ (k : Int) := by omega
  go_wp2_with fail
  go_ret
  exact HW5.out

theorem box4 {w : World} {gb : Nat} {a b c d : Value} {t : TypeId} (h : w.heap[gb]? = some (.cells #[a, b, c, d] t (0, 0))) : w.cell? ⟨gb, 0, none⟩ = some a ∧ w.cell? ⟨gb, 1, none⟩ = some b ∧ w.cell? ⟨gb, 2, none⟩ = some c ∧ w.cell? ⟨gb, 3, none⟩ = some d :=
  ⟨cell_of_row w gb 0 _ _ _ h, cell_of_row w gb 1 _ _ _ h, cell_of_row w gb 2 _ _ _ h, cell_of_row w gb 3 _ _ _ h⟩

set_option maxHeartbeats 2000000 in
theorem outlasts_is (nm : ByteArray) (AV AD : Option Addr) (cV cD nV nD : Nat) (vis dur : List Int) (sm p : Int) (w : World) (hV : vis.length = nV) (hD : dur.length = nD) (hrV : Rd w AV (u8s vis)) (hrD : Rd w AD (u8s dur)) (hnV : nV ≤ 1048576) (hnD : nD ≤ 1048576) (hcV : nV ≤ cV) (h0 : p % 3 = 2 → 0 < max nV nD)
    (hp : -9223372036854775808 ≤ p ∧ p ≤ 9223372036854775807) :
    Calls Try.prog 54 #[.agg #[.string nm, .slice AV nV cV, .slice AD nD cD, .int .i64 sm], .int .i64 p] w (Made w.heap.size 5 w (u8s (outl vis dur p))) := by
  have HV := Lib.hid hV
  have HDU := Lib.hid hD
  clear hV hD
  have hd3 := Int.emod_nonneg p (show (3 : Int) ≠ 0 by omega)
  have hd4 := Int.emod_lt_of_pos p (show (0 : Int) < 3 by omega)
  obtain ⟨r, hr⟩ : ∃ r, p % 3 = r := ⟨_, rfl⟩
  obtain ⟨q, hq⟩ : ∃ q, p / 3 = q := ⟨_, rfl⟩
  have hqb : -9223372036854775808 ≤ q ∧ q ≤ 9223372036854775807 := by omega
  rw [hr] at h0 hd3 hd4
  have hcon : ∀ w, Calls Try.prog 71 #[.int .i64 p, .int .i64 3] w fun e w' => e = .returned (.tuple #[.int .i64 q, .int .i64 r]) ∧ ∃ d, w' = w.drewN d := fun w => by
    rw [← hq, ← hr]
    exact divide_is p 3 w hp (by omega) (by omega)
  have hout : outl vis dur p = if r = 0 then dur else if r = 1 then vis else tornB vis dur q := by rw [outl, hr, hq]
  have HC := Lib.hid hcon
  have HO := Lib.hid hout
  clear hcon hout hr hq
  have hr3 : r = 0 ∨ r = 1 ∨ r = 2 := by omega
  rcases hr3 with rfl | rfl | rfl
  all_goals
    go_enter Try.func54, Try.ntmps54
    go_wp2_with fail
    refine (HC.out _).mono ?_
    rintro e w2 ⟨rfl, d, hw2⟩
    have hb2 : Below w.heap.size w w2 := by rw [hw2]; exact below_n ((Below.refl _ _).alloc (Nat.le_refl _) _) d
    have hbk2 : w2.heap[w.heap.size]? = some (.cells #[.string nm, .slice AV nV cV, .slice AD nD cD, .int .i64 sm] 82 (0, 0)) := by rw [hw2]; exact heap_alloc_new w _
    obtain ⟨gb, hgb⟩ : ∃ gb, gb = w.heap.size := ⟨_, rfl⟩
    rw [← hgb] at hbk2 ⊢
    obtain ⟨b0, b1, b2, b3⟩ := box4 hbk2
    have hrV2 := hrV.below hb2
    have hrD2 := hrD.below hb2
    have HGB := Lib.hid hgb
    clear hw2 hbk2 hgb
    go_wp2_with fail
  · refine (bclone_any AD nD cD dur _ HDU.out hrD2 (by omega)).mono ?_
    rintro e w3 ⟨v3, rfl, ho3, hb3⟩
    go_wp2_with fail
    go_ret
    rw [show outl vis dur p = dur by simpa using HO.out, HGB.out]
    exact ⟨_, rfl, own_more ho3 hb2.size, hb2.trans (hb3.mono hb2.size)⟩
  · refine (bclone_any AV nV cV vis _ HV.out hrV2 (by omega)).mono ?_
    rintro e w3 ⟨v3, rfl, ho3, hb3⟩
    go_wp2_with fail
    go_ret
    rw [show outl vis dur p = vis by simpa using HO.out, HGB.out]
    exact ⟨_, rfl, own_more ho3 hb2.size, hb2.trans (hb3.mono hb2.size)⟩
  · refine (torn_is nm AV AD cV cD nV nD vis dur sm q _ HV.out HDU.out hrV2 hrD2 hnV hnD hcV (by simpa using h0) hqb).mono ?_
    rintro e w3 ⟨v3, rfl, ho3, hb3⟩
    go_wp2_with fail
    go_ret
    rw [show outl vis dur p = tornB vis dur q by simpa using HO.out, HGB.out]
    exact ⟨_, rfl, own_more ho3 hb2.size, hb2.trans (hb3.mono hb2.size)⟩

end Go.Proofs.Ytaccmjgnggepjaa
/-
  Lists of files, as they are handed in and out.
-/
namespace Go.Proofs.Ytaccmjgnggepjaa
open Go.RowKit

/-- a file of a list: its name, its bytes, the slice that shows them -/
structure FL where
  nm : ByteArray
  dat : List Int
  v : Value
def FL.cells (f : FL) : List Value := [.string f.nm, f.v]
def FL.pl (f : FL) : ByteArray × List Int := (f.nm, f.dat)
def cellsF (l : List FL) : List Value := l.flatMap FL.cells
theorem cellsF_length (l : List FL) : (cellsF l).length = l.length * 2 := by
  induction l with
  | nil => rfl
  | cons m ms ih => simp only [cellsF, List.flatMap_cons, List.length_append] at ih ⊢; rw [ih]; simp [FL.cells]; omega
theorem cellsF_append (a b : List FL) : cellsF (a ++ b) = cellsF a ++ cellsF b := by simp [cellsF]
theorem cellsF_at : ∀ {l : List FL} {i : Nat} {f : FL}, l[i]? = some f → (cellsF l)[i * 2]? = some (.string f.nm) ∧ (cellsF l)[i * 2 + 1]? = some f.v
  | [], _, _, h => by simp at h
  | x :: l, 0, f, h => by
    simp at h
    subst h
    exact ⟨rfl, rfl⟩
  | x :: l, i + 1, f, h => by
    have ih := cellsF_at (l := l) (i := i) (by simpa using h)
    rw [show (i + 1) * 2 = i * 2 + 1 + 1 by omega]
    exact ih
/-- its bytes read so -/
structure FIn (w : World) (f : FL) : Prop where
  rd : ∃ A c, f.v = .slice A f.dat.length c ∧ f.dat.length ≤ c ∧ c ≤ maxLen ∧ Rd w A (u8s f.dat)
  byt : Byts f.dat
theorem FIn.below {w w' : World} {f : FL} (h : FIn w f) (hb : Below w.heap.size w w') : FIn w' f := by
  obtain ⟨⟨A, c, h1, h2, h3, h4⟩, h5⟩ := h
  exact ⟨⟨A, c, h1, h2, h3, h4.below hb⟩, h5⟩
/-- new files, each in a row of its own -/
structure FsOwn (w : World) (B : Nat) (v : Value) (l : List FL) : Prop where
  row : w.ownsRow B 78 2 v l.length (cellsF l)
  els : ∀ f ∈ l, w.ownsRow B 5 1 f.v f.dat.length (u8s f.dat) ∧ Byts f.dat
  nd : (v.ownBlock.toList ++ l.flatMap fun f => f.v.ownBlock.toList).Nodup
theorem FsOwn.below {w w' : World} {B : Nat} {v : Value} {l : List FL} (h : FsOwn w B v l) (hb : Below w.heap.size w w') : FsOwn w' B v l :=
  ⟨ownS_below h.row hb, fun f hf => ⟨own_below (h.els f hf).1 hb, (h.els f hf).2⟩, h.nd⟩
theorem FsOwn.fin {w : World} {B : Nat} {v : Value} {l : List FL} (h : FsOwn w B v l) {f : FL} (hf : f ∈ l) : FIn w f := by
  obtain ⟨A, c, h1, h2, h3, h4⟩ := rd_own (h.els f hf).1
  exact ⟨⟨A, c, h1, h2, h3, h4⟩, (h.els f hf).2⟩

/-- what a list of files is handed back as -/
def FsTo (w : World) (fs : List (ByteArray × List Int)) (e : Ending) (w' : World) : Prop := ∃ v l, e = .returned v ∧ l.map FL.pl = fs ∧ FsOwn w' w.heap.size v l ∧ Below w.heap.size w w'

/-- the files of a crash -/
def crashL : List PF → List Int → List (ByteArray × List Int)
  | [], _ => []
  | f :: L, ps => if f.vis = f.dur then (f.nm, f.dur) :: crashL L ps else (f.nm, outl f.vis f.dur (ps.headD 0)) :: crashL L ps.tail
def dCrash (D : PD) (ps : List Int) : List (ByteArray × List Int) := crashL D.L ps

theorem info_afile : (Try.prog.info? 78).map (fun i => (i.zero, i.size, i.bytes)) = some (some (.agg #[.string ByteArray.empty, .slice none 0 0]), 2, 40) := by kernel_rfl

theorem FsOwn.snoc {w w4 w5 : World} {B : Nat} {A5 : Option Addr} {c5 n : Nat} {v : Value} {l : List FL} {f : FL} (h : FsOwn w4 B v l) (hf : w4.ownsRow w.heap.size 5 1 f.v f.dat.length (u8s f.dat)) (hb : Byts f.dat) (hB : B ≤ w.heap.size) (hn : n = l.length)
    (hlt : ∀ k, (v.ownBlock = some k ∨ ∃ x ∈ l, x.v.ownBlock = some k) → k < w.heap.size)
    (h5 : w5.ownsRow B 78 2 (.slice A5 (n + 1) c5) (n + 1) (cellsF l ++ f.cells)) (hg : w4.grownBy w5 v.ownBlock) (hloc : (Value.slice A5 (n + 1) c5).ownBlock = v.ownBlock ∨ (Value.slice A5 (n + 1) c5).ownBlock = some w4.heap.size) : FsOwn w5 B (.slice A5 (n + 1) c5) (l ++ [f]) := by
  have hkeep : ∀ x ∈ l, ∀ k, x.v.ownBlock = some k → w5.heap[k]? = w4.heap[k]? := fun x hx k hk => by
    refine hg.block k (own_lt (h.els x hx).1 hk).1 (fun e => ?_)
    have hnd := h.nd
    simp only [List.nodup_append, List.mem_flatMap, Option.mem_toList] at hnd
    exact hnd.2.2 k e.symm k ⟨x, hx, hk⟩ rfl
  have hfk : ∀ k, f.v.ownBlock = some k → w.heap.size ≤ k ∧ k < w4.heap.size := fun k hk => ⟨(own_lt hf hk).2, (own_lt hf hk).1⟩
  refine ⟨?_, ?_, ?_⟩
  · rw [List.length_append, List.length_singleton, ← hn, cellsF_append]
    simpa [cellsF] using h5
  · intro x hx
    rcases List.mem_append.1 hx with hx | hx
    · exact ⟨own_kept (h.els x hx).1 fun k hk _ => hkeep x hx k hk, (h.els x hx).2⟩
    · rw [List.mem_singleton] at hx
      subst hx
      refine ⟨own_more (own_kept hf fun k hk hl => hg.block k hl (fun e => ?_)) hB, hb⟩
      have := hlt k (.inl e.symm)
      have := (hfk k hk).1
      omega
  · have hnd := h.nd
    simp only [List.flatMap_append, List.flatMap_cons, List.flatMap_nil, List.append_nil, List.nodup_append, List.mem_append, List.mem_flatMap, Option.mem_toList] at hnd ⊢
    refine ⟨by cases (Value.slice A5 (n + 1) c5).ownBlock <;> simp, ⟨hnd.2.1, by cases f.v.ownBlock <;> simp, ?_⟩, ?_⟩
    · rintro a ⟨x, hx, hk⟩ b hb' rfl
      have := hlt a (.inr ⟨x, hx, hk⟩)
      have := (hfk a hb').1
      omega
    · rintro a ha b (⟨x, hx, hk⟩ | hb') rfl
      · rcases hloc with e | e
        · exact hnd.2.2 a (by rw [← e]; exact ha) a ⟨x, hx, hk⟩ rfl
        · rw [e] at ha
          cases ha
          have := (own_lt (h.els x hx).1 hk).1
          omega
      · rcases hloc with e | e
        · have := hlt a (.inl (by rw [← e]; exact ha))
          have := (hfk a hb').1
          omega
        · rw [e] at ha
          cases ha
          have := (hfk _ hb').2
          omega

/-- append of an element of several cells, and where the row lies then -/
theorem run_app_elem {P : Program} (w : World) (t ty : TypeId) (B : Nat) (e : TypeId) (z : Value) (sz bytes : Nat) (ht : P.underlying t = some (.slice e)) (hinfo : (P.info? e).map (fun i => (i.zero, i.size, i.bytes)) = some (some z, sz, bytes)) (hzs : z.cells.size = sz) (hsz : 0 < sz) (hby : bytes ≤ 512)
    (v : Value) (n : Nat) (xs : List Value) (hown : w.ownsRow B e sz v n xs) (g : Nat) (us : List Value) (hu : us.length = sz) (hg : w.heap[g]? = some (.cells us.toArray e (0, 0))) (h1 : ∀ u ∈ us, u.oneCell' = true) (hn : n + 1 ≤ 1000000) (hB : B ≤ w.heap.size) :
    ∃ A' c' w', (Builtin.append_ #[t, t] ty #[v, .slice (some ⟨g, 0, none⟩) 1 1]).run P w = .ok (.slice A' (n + 1) c') w' ∧ w'.ownsRow B e sz (.slice A' (n + 1) c') (n + 1) (xs ++ us) ∧ w.grownBy w' v.ownBlock ∧ ((Value.slice A' (n + 1) c').ownBlock = v.ownBlock ∨ (Value.slice A' (n + 1) c').ownBlock = some w.heap.size) := by
  obtain ⟨i, hi, hz, hsize, hbytes⟩ := info_parts hinfo
  obtain ⟨v', w', hrun, h2, h3, _, h5⟩ := run_append_own_at (P := P) w B t ty e i z sz bytes ht hi hz hsize hbytes hzs hsz v n xs hown ⟨g, 0, none⟩ 1 1 us (by omega) (fun j y hj => by
    rw [Addr.add_lit, cell_of_row w g _ _ _ _ hg]
    simpa using hj) h1 (by unfold maxLen; omega) (by have := Nat.mul_le_mul hn hby; omega) hB
  obtain ⟨A', c', rfl, _⟩ := ownS_slice h2
  exact ⟨A', c', w', hrun, h2, h3, h5⟩

end Go.Proofs.Ytaccmjgnggepjaa
/-
  Package disk: Crash.
-/
namespace Go.Proofs.Ytaccmjgnggepjaa
open Go.RowKit

theorem outl_byts {vis dur : List Int} (h1 : Byts vis) (h2 : Byts dur) (p : Int) : Byts (outl vis dur p) := by
  unfold outl
  split
  · exact h2
  · split
    · exact h1
    · intro c hc
      simp only [tornB, List.mem_map] at hc
      obtain ⟨i, _, rfl⟩ := hc
      split
      · rw [List.getD_eq_getElem?_getD]; exact h1.at_ i
      · rw [List.getD_eq_getElem?_getD]; exact h2.at_ i

/-- make([]T, 0, n) of elements of several cells -/
theorem wpList_make_roomS {P : Program} (w : World) {ops : Array Oper} {rest : List Oper} {o : Oper} {a : Act} {Q : Exit → Act → World → Prop}
    (hg : o.guard = none) (l c : Operand) (t : TypeId) (hop : o.op = Op.makeSlice t l c)
    (B : Nat) (e : TypeId) (z : Value) (sz bytes : Nat) (h1 : P.underlying t = some (.slice e)) (hinfo : (P.info? e).map (fun i => (i.zero, i.size, i.bytes)) = some (some z, sz, bytes)) (hby : bytes ≤ 256)
    (n : Nat) (hl : a.eval l = .int .i64 0) (hc : a.eval c = .int .i64 (n : Int)) (hn : n ≤ 1000000) (hB : B ≤ w.heap.size)
    (hK : ∀ v w', w'.ownsRow B e sz v 0 [] → Below B w w' → (∀ k, v.ownBlock = some k → w.heap.size ≤ k) → wpList P ops Q rest (a.put o.dst v) w') :
    wpList P ops Q (o :: rest) a w := by
  obtain ⟨i, hi, hz, hsize, hbytes⟩ := info_parts hinfo
  refine wpList_make_own (P := P) w hg l c t hop w.heap.size e i z sz h1 hi hz hsize .i64 .i64 n n hl hc rfl ?_ (by unfold maxLen; omega) (Nat.le_refl _) ?_
  · rw [hbytes]
    have := Nat.mul_le_mul hby hn
    omega
  · intro w' hown hgr
    exact hK _ w' (ownS_more hown hB) ((belowS_own (v := .slice none 0 0) (xs := []) (n := 0) (e := e) (s := sz) (Below.refl _ _) (World.ownsRow_nil _ _ _ _) hgr (Nat.le_refl _)).mono hB) (fun k hk => (own_lt hown hk).2)

set_option maxRecDepth 100000 in
set_option maxHeartbeats 16000000 in
theorem crash_is {F : Nat → Prop} {D : PD} (g : Nat) (AP0 : Option Addr) (nP0 cP0 : Nat) (ps0 : List Int) (w : World) (h : IsDisk w g F D) (hP0 : ps0.length = nP0) (hrP : Rd w AP0 (i64s ps0)) (hcP : nP0 ≤ cP0) (hmP : cP0 ≤ maxLen) (hpr : ∀ x ∈ ps0, -9223372036854775808 ≤ x ∧ x ≤ 9223372036854775807) :
    Calls Try.prog 31 #[.pointer (some ⟨g, 0, none⟩), .slice AP0 nP0 cP0] w (FsTo w (dCrash D ps0)) := by
  obtain ⟨vL, l, ms, h⟩ := h
  have HD := Lib.hid h
  have HPR := Lib.hid hpr
  have HP0 := Lib.hid hP0
  have hgl : g < w.heap.size := h.lt _ h.here
  have c0 := h.c0
  have hfew := h.few
  obtain ⟨AL, cL, hvL, hnc, hcm, hrd⟩ := h.slice rfl
  obtain ⟨nL, hnL⟩ : ∃ nL, ms.length = nL := ⟨_, rfl⟩
  rw [hnL] at hvL hnc hfew
  have HRD := Lib.hid hrd
  have HN := Lib.hid hnL
  have HEQ := Lib.hid h.eqL
  subst hvL
  unfold maxLen at hmP
  clear h hrd hnL hpr hP0
  go_enter Try.func31, Try.ntmps31
  go_wp2_with (first | (refine wpList_make_roomS _ rfl _ _ 69 rfl w.heap.size 78 _ 2 40 Try.underlying69 info_afile (by decide) nL rfl rfl (by omega) (Nat.le_refl _) ?_))
  intro v1 w1 ho1 hb1 hv1
  have k0 : w1.cell? ⟨g, 0, none⟩ = some (.slice AL nL cL) := (hb1.cell (p := ⟨g, 0, none⟩) hgl).trans c0
  clear c0
  go_wp2_with fail
  go_loopw [1, 5, 7, 8, 20] (fun pv v _ _ i wr => ∃ (k : Nat) (AP : Option Addr) (nP cP : Nat) (ps : List Int) (xs : List FL), i = .int .i64 k ∧ k ≤ nL ∧ pv = .slice AP nP cP ∧ nP ≤ cP ∧ (cP : Int) ≤ 9223372036854775807 ∧ Hid (ps.length = nP) ∧ Hid (Rd w AP (i64s ps)) ∧ Hid (∀ x ∈ ps, -9223372036854775808 ≤ x ∧ x ≤ 9223372036854775807) ∧ Hid (xs.length = k) ∧ Hid (dCrash D ps0 = xs.map FL.pl ++ crashL (D.L.drop k) ps) ∧ Hid (FsOwn wr w.heap.size v xs) ∧ Below w.heap.size w wr) (fun _ _ _ _ i _ => nL - (intOf i).toNat)
  case atStart => exact ⟨0, _, _, _, ps0, [], rfl, by omega, rfl, hcP, by omega, HP0.out, hrP, HPR.out, rfl, rfl, ⟨ho1, fun f hf => by simp at hf, by cases v1.ownBlock <;> simp⟩, hb1⟩
  case round =>
    obtain ⟨k, AP, nP, cP, ps, xs, rfl, hk, rfl, hnP, hcPm, HPL, HPD, HPS, HXL, HCR, HFS, hb⟩ := hrel
    clear ho1 hb1 hv1 k0
    by_cases hlt : k < nL
    · obtain ⟨m, hm⟩ : ∃ m, ms[k]? = some m := ⟨_, List.getElem?_eq_getElem (by rw [HN.out]; omega)⟩
      have hmem : m ∈ ms := List.mem_of_getElem? hm
      obtain ⟨b, off, rfl, hbl, hcell⟩ := (HRD.out.below hb).open_ (by rw [cellsD_length, HN.out]; omega)
      have a0 := hcell _ _ (cellsD_at hm (j := 0) rfl)
      have a1 := hcell _ _ (cellsD_at hm (j := 1) rfl)
      have a2 := hcell _ _ (cellsD_at hm (j := 2) rfl)
      have a3 := hcell _ _ (cellsD_at hm (j := 3) rfl)
      simp only [← Nat.add_assoc, Nat.add_zero] at a0 a1 a2 a3
      have hf := (HD.out.below hb).els m hmem
      obtain ⟨AV, cV, hvV, hcV, hmV, hrV⟩ := rd_own hf.rV
      obtain ⟨AD, cD, hdV, hcD, hmD, hrD⟩ := rd_own hf.rD
      obtain ⟨nV, hnV⟩ : ∃ nV, m.vis.length = nV := ⟨_, rfl⟩
      obtain ⟨nD, hnD⟩ : ∃ nD, m.dur.length = nD := ⟨_, rfl⟩
      have hz1 := hf.z1
      have hz2 := hf.z2
      rw [hnV] at hvV hcV hz1
      rw [hnD] at hdV hcD hz2
      rw [hvV] at a1
      rw [hdV] at a2
      have hlk : D.L.drop k = m.pf :: D.L.drop (k + 1) := by
        have h1 : D.L[k]? = some m.pf := by rw [HEQ.out, List.getElem?_map, hm]; rfl
        obtain ⟨h2, h3⟩ := List.getElem?_eq_some_iff.1 h1
        rw [List.drop_eq_getElem_cons h2, h3]
      have HB1 := Lib.hid hf.b1
      have HB2 := Lib.hid hf.b2
      have HNV := Lib.hid hnV
      have HND := Lib.hid hnD
      have HLK := Lib.hid hlk
      have HM := Lib.hid hm
      have i0 : (0 : Int) ≤ (k : Int) := by omega
      have i1 : (k : Int) < (nL : Int) := by omega
      obtain ⟨gb, hgb⟩ : ∃ gb, gb = wr.heap.size := ⟨_, rfl⟩
      obtain ⟨w2, hw2⟩ : ∃ w2, w2 = wr.alloc (.cells #[.string m.nm, .slice AV nV cV, .slice AD nD cD, .int .i64 m.same] 82) := ⟨_, rfl⟩
      have hb2 : Below wr.heap.size wr w2 := by rw [hw2]; exact (Below.refl _ _).alloc (Nat.le_refl _) _
      have hbk2 : w2.heap[gb]? = some (.cells #[.string m.nm, .slice AV nV cV, .slice AD nD cD, .int .i64 m.same] 82 (0, 0)) := by rw [hw2, hgb]; exact heap_alloc_new wr _
      have hgb2 : gb < w2.heap.size := (Array.getElem?_eq_some_iff.1 hbk2).1
      have hbw2 : Below w.heap.size w w2 := hb.trans (hb2.mono hb.size)
      have HBK2 := Lib.hid hbk2
      have HB22 := Lib.hid hb2
      have HRV := Lib.hid (hrV.below hb2)
      have HRD2 := Lib.hid (hrD.below hb2)
      have HFS2 := Lib.hid (HFS.out.below hb2)
      have HGB := Lib.hid hgb
      go_upto_region 5 with fail
      rw [← hw2, ← hgb]
      clear hcell hm hmem hf hvV hdV hnV hnD hlk hw2 hb2 hbk2 hgb hrV hrD a0 a1 a2 a3
      obtain ⟨b0, b1, b2, b3⟩ := box4 HBK2.out
      go_wp2_with fail
      by_cases heq : m.vis = m.dur
      · refine (bequal_is true AV AD nV cV nD cD m.vis m.dur _ HNV.out HND.out HRV.out HRD2.out HB1.out HB2.out (decide_eq_true heq)).mono ?_
        rintro e w' ⟨rfl, rfl⟩
        have HEV := Lib.hid heq
        clear heq
        go_wp2_with fail
        obtain ⟨w3, hw3⟩ : ∃ w3, w3 = w2.drew := ⟨_, rfl⟩
        have hb23 : Below w2.heap.size w2 w3 := by rw [hw3]; exact (Below.refl _ _).drew
        have hbk3 := (hb23.block gb hgb2).trans HBK2.out
        have HB3 := Lib.hid hb23
        have HBK3 := Lib.hid hbk3
        have HW3 := Lib.hid hw3
        clear hw3 hb23 hbk3
        refine wp_region_held_drew (S := fun w' => w'.cell? ⟨gb, 0, none⟩ = some (.string m.nm) ∧ w'.cell? ⟨gb, 1, none⟩ = some (.slice AV nV cV) ∧ w'.cell? ⟨gb, 2, none⟩ = some (.slice AD nD cD) ∧ w'.cell? ⟨gb, 3, none⟩ = some (.int .i64 m.same)) (by kernel_rfl) (by rw [← HW3.out]; exact box4 HBK3.out) (fun _ => ?_)
        rw [← HW3.out]
        refine ytake_0 (v := ?vv22) (by kernel_rfl) (by kernel_rfl) (by kernel_rfl) (fun _ _ _ h => h) (Or.inl ⟨by rfl, ?hy22⟩) (box4 HBK3.out) ?_
        case hy22 =>
          intro wX hSw
          go_simp
          try with_reducible rfl
        try simp only [Act.put, List.setIfInBounds_toArray, List.set_cons_zero, List.set_cons_succ]
        refine ytake_1 (v := ?vv23) (by kernel_rfl) (by kernel_rfl) (by kernel_rfl) (fun _ _ _ h => h) (Or.inl ⟨by rfl, ?hy23⟩) (box4 HBK3.out) ?_
        case hy23 =>
          intro wX hSw
          go_simp
          try with_reducible rfl
        try simp only [Act.put, List.setIfInBounds_toArray, List.set_cons_zero, List.set_cons_succ]
        refine ytake_2 (v := ?vv24) (by kernel_rfl) (by kernel_rfl) (by kernel_rfl) (fun _ _ _ h => h) (Or.inl ⟨by rfl, ?hy24⟩) (box4 HBK3.out) ?_
        case hy24 =>
          intro wX hSw
          have hcc := hSw.1
          go_simp
          try with_reducible rfl
        try simp only [Act.put, List.setIfInBounds_toArray, List.set_cons_zero, List.set_cons_succ]
        refine ytake_3 (v := ?vv25) (by kernel_rfl) (by kernel_rfl) (by kernel_rfl) (fun _ _ _ h => h) (Or.inl ⟨by rfl, ?hy25⟩) (box4 HBK3.out) ?_
        case hy25 =>
          intro wX hSw
          have hc0 := hSw.1
          have hc1 := hSw.2.1
          have hc2 := hSw.2.2.1
          have hc3 := hSw.2.2.2
          go_simp
          try with_reducible rfl
        try simp only [Act.put, List.setIfInBounds_toArray, List.set_cons_zero, List.set_cons_succ]
        refine ytake_4 (v := ?vv26) (by kernel_rfl) (by kernel_rfl) (by kernel_rfl) (fun _ _ _ h => h) (Or.inl ⟨by rfl, ?hy26⟩) (box4 HBK3.out) ?_
        case hy26 =>
          intro wX hSw
          go_simp
          try with_reducible rfl
        try simp only [Act.put, List.setIfInBounds_toArray, List.set_cons_zero, List.set_cons_succ]
        refine yready_5 (by kernel_rfl) ?_
        intro KQ hK
        rw [if_pos (by rfl)]
        try go_simp
        refine (outlasts_is m.nm AV AD cV cD nV nD m.vis m.dur m.same 0 _ HNV.out HND.out (HRV.out.below HB3.out) (HRD2.out.below HB3.out) (by omega) (by omega) hcV (fun h => by simp at h) (by omega)).mono ?_
        rintro e w4 ⟨v4, rfl, ho4, hb4⟩
        obtain ⟨A4, c4, rfl, _, _, _⟩ := rd_own (by rw [u8s_length] at ho4; exact ho4)
        try go_simp
        have hbk4 := (hb4.block gb (Nat.lt_of_lt_of_le hgb2 HB3.out.size)).trans HBK3.out
        refine hK.out _ _ (box4 hbk4) (fun _ => ?_)
        clear hK KQ
        try simp only [Act.put, List.setIfInBounds_toArray, List.set_cons_zero, List.set_cons_succ]
        refine ytake_6 (v := ?vv27) (by kernel_rfl) (by kernel_rfl) (by kernel_rfl) (fun _ _ _ h => h) (Or.inl ⟨by rfl, ?hy27⟩) (box4 hbk4) ?_
        case hy27 =>
          intro wX hSw
          go_simp
          try with_reducible rfl
        try simp only [Act.put, List.setIfInBounds_toArray, List.set_cons_zero, List.set_cons_succ]
        refine yready_7 (by kernel_rfl) ?_
        intro KQ hK
        rw [if_pos (by rfl)]
        go_simp
        obtain ⟨n4, hn4⟩ : ∃ n4, (outl m.vis m.dur 0).length = n4 := ⟨_, rfl⟩
        rw [hn4] at ho4 ⊢
        obtain ⟨w5, hw5⟩ : ∃ w5, w5 = w4.alloc (.cells #[.string m.nm, .slice A4 n4 c4] 78) := ⟨_, rfl⟩
        have hb5 : Below w4.heap.size w4 w5 := by rw [hw5]; exact (Below.refl _ _).alloc (Nat.le_refl _) _
        have hgx : w5.heap[w4.heap.size]? = some (.cells ([.string m.nm, .slice A4 n4 c4] : List Value).toArray 78 (0, 0)) := by rw [hw5]; exact heap_alloc_new w4 _
        have hbk5 := (hb5.block gb (Nat.lt_of_lt_of_le hgb2 (Nat.le_trans HB3.out.size hb4.size))).trans hbk4
        rw [← hw5]
        refine hK.out _ _ (box4 hbk5) (fun _ => ?_)
        clear hK KQ hw5
        try simp only [Act.put, List.setIfInBounds_toArray, List.set_cons_zero, List.set_cons_succ]
        have hb25 : Below w2.heap.size w2 w5 := HB3.out.trans ((hb4.trans (hb5.mono hb4.size)).mono HB3.out.size)
        have hfs5 := HFS2.out.below hb25
        have hrow5 := hfs5.row
        rw [HXL.out] at hrow5
        obtain ⟨A6, c6, w6, hrun, hown6, hg6, hloc6⟩ := run_app_elem (P := Try.prog) w5 69 69 w.heap.size 78 _ 2 40 Try.underlying69 info_afile rfl (by decide) (by decide) _ k _ hrow5 w4.heap.size [.string m.nm, .slice A4 n4 c4] rfl hgx (by simp; exact ⟨rfl, rfl⟩) (by omega) (Nat.le_trans hbw2.size hb25.size)
        have hbk6 := (hg6.block gb (Nat.lt_of_lt_of_le hgb2 hb25.size) (fun e => by have h1 := (own_lt HFS.out.row e.symm).1; have h2 := HGB.out; omega)).trans hbk5
        refine yready_8 (by kernel_rfl) ?_
        intro KQ hK
        rw [if_pos (by rfl)]
        refine wp_call_run _ (.tmp 40) (.tmp 47) 69 69 rfl rfl rfl hrun ?_
        refine hK.out _ _ (box4 hbk6) (fun _ => ?_)
        clear hK KQ
        try simp only [Act.put, List.setIfInBounds_toArray, List.set_cons_zero, List.set_cons_succ]
        refine ytake_9 (v := ?vv28) (by kernel_rfl) (by kernel_rfl) (by kernel_rfl) (fun _ _ _ h => h) (Or.inl ⟨by rfl, ?hy28⟩) (box4 hbk6) ?_
        case hy28 =>
          intro wX hSw
          go_simp
          try with_reducible rfl
        try simp only [Act.put, List.setIfInBounds_toArray, List.set_cons_zero, List.set_cons_succ]
        refine wpAnyH_done (by kernel_rfl) ?_ _
        have hfs6 : FsOwn w6 w.heap.size (.slice A6 (k + 1) c6) (xs ++ [⟨m.nm, outl m.vis m.dur 0, .slice A4 n4 c4⟩]) :=
          FsOwn.snoc (w := w3) (f := ⟨m.nm, outl m.vis m.dur 0, .slice A4 n4 c4⟩) hfs5 (own_cast (own_below ho4 hb5) (u8s_length _)) (outl_byts HB1.out HB2.out 0) (Nat.le_trans hbw2.size HB3.out.size) HXL.out.symm (fun k' hk' => by
            refine Nat.lt_of_lt_of_le ?_ HB3.out.size
            rcases hk' with hk' | ⟨x, hx, hk'⟩
            · exact (own_lt HFS2.out.row hk').1
            · exact (own_lt (HFS2.out.els x hx).1 hk').1) hown6 hg6 hloc6
        have hbw6 : Below w.heap.size w w6 := belowS_own (hbw2.trans (hb25.mono hbw2.size)) hrow5 hg6 (Nat.le_trans hbw2.size hb25.size)
        have hcr : dCrash D ps0 = (xs ++ ([⟨m.nm, outl m.vis m.dur 0, .slice A4 n4 c4⟩] : List FL)).map FL.pl ++ crashL (D.L.drop (k + 1)) ps := by
          rw [HCR.out, HLK.out, List.map_append, List.append_assoc]
          congr 1
          show crashL (m.pf :: D.L.drop (k + 1)) ps = [(m.nm, outl m.vis m.dur 0)] ++ _
          rw [crashL, if_pos (show m.pf.vis = m.pf.dur from HEV.out)]
          rfl
        have HFS6 := Lib.hid hfs6
        have HCR6 := Lib.hid hcr
        have HXL6 : Hid ((xs ++ [⟨m.nm, outl m.vis m.dur 0, .slice A4 n4 c4⟩] : List FL).length = k + 1) := by show _ = _; rw [List.length_append, HXL.out]; rfl
        clear hfs6 hcr hrun hown6 hg6 hloc6 hfs5 hrow5 hb25 hgx hbk4 hbk5 hbk6 ho4 hb4 hb5 hn4
        go_wp2_with fail
        go_roundw
        case rel => exact ⟨k + 1, AP, nP, cP, ps, _, by go_num, by omega, rfl, hnP, hcPm, HPL.out, HPD.out, HPS.out, HXL6.out, HCR6.out, HFS6.out, hbw6⟩
        case measure => simp [intOf]; omega
      · have hmx : 0 < max nV nD := by
          rcases Nat.eq_zero_or_pos (max nV nD) with h | h
          · have h1 : m.vis = [] := List.eq_nil_of_length_eq_zero (by rw [HNV.out]; omega)
            have h2 : m.dur = [] := List.eq_nil_of_length_eq_zero (by rw [HND.out]; omega)
            exact absurd (h1.trans h2.symm) heq
          · exact h
        by_cases hnp0 : nP = 0
        · have hps0 : ps = [] := List.eq_nil_of_length_eq_zero (by rw [HPL.out]; exact hnp0)
          have HPS0 := Lib.hid hps0
          have HNE := Lib.hid heq
          have i5 : ¬ ((0 : Int) < (nP : Int)) := by omega
          refine (bequal_is false AV AD nV cV nD cD m.vis m.dur _ HNV.out HND.out HRV.out HRD2.out HB1.out HB2.out (decide_eq_false heq)).mono ?_
          rintro e w' ⟨rfl, rfl⟩
          clear heq hps0 hmx hnp0
          go_wp2_with fail
          obtain ⟨w3, hw3⟩ : ∃ w3, w3 = w2.drew := ⟨_, rfl⟩
          have hb23 : Below w2.heap.size w2 w3 := by rw [hw3]; exact (Below.refl _ _).drew
          have hbk3 := (hb23.block gb hgb2).trans HBK2.out
          have HB3 := Lib.hid hb23
          have HBK3 := Lib.hid hbk3
          have HW3 := Lib.hid hw3
          clear hw3 hb23 hbk3
          refine wp_region_held_drew (S := fun w' => w'.cell? ⟨gb, 0, none⟩ = some (.string m.nm) ∧ w'.cell? ⟨gb, 1, none⟩ = some (.slice AV nV cV) ∧ w'.cell? ⟨gb, 2, none⟩ = some (.slice AD nD cD) ∧ w'.cell? ⟨gb, 3, none⟩ = some (.int .i64 m.same)) (by kernel_rfl) (by rw [← HW3.out]; exact box4 HBK3.out) (fun _ => ?_)
          rw [← HW3.out]
          refine ytake_0 (v := ?vv1) (by kernel_rfl) (by kernel_rfl) (by kernel_rfl) (fun _ _ _ h => h) (Or.inl ⟨by rfl, ?hy1⟩) (box4 HBK3.out) ?_
          case hy1 =>
            intro wX hSw
            go_simp
            try with_reducible rfl
          try simp only [Act.put, List.setIfInBounds_toArray, List.set_cons_zero, List.set_cons_succ]
          refine ytake_1 (v := ?vv2) (by kernel_rfl) (by kernel_rfl) (by kernel_rfl) (fun _ _ _ h => h) (Or.inl ⟨by rfl, ?hy2⟩) (box4 HBK3.out) ?_
          case hy2 =>
            intro wX hSw
            go_simp
            try with_reducible rfl
          try simp only [Act.put, List.setIfInBounds_toArray, List.set_cons_zero, List.set_cons_succ]
          refine ytake_2 (v := ?vv3) (by kernel_rfl) (by kernel_rfl) (by kernel_rfl) (fun _ _ _ h => h) (Or.inl ⟨by rfl, ?hy3⟩) (box4 HBK3.out) ?_
          case hy3 =>
            intro wX hSw
            have hcc := hSw.1
            go_simp
            try with_reducible rfl
          try simp only [Act.put, List.setIfInBounds_toArray, List.set_cons_zero, List.set_cons_succ]
          refine ytake_3 (v := ?vv4) (by kernel_rfl) (by kernel_rfl) (by kernel_rfl) (fun _ _ _ h => h) (Or.inl ⟨by rfl, ?hy4⟩) (box4 HBK3.out) ?_
          case hy4 =>
            intro wX hSw
            have hc0 := hSw.1
            have hc1 := hSw.2.1
            have hc2 := hSw.2.2.1
            have hc3 := hSw.2.2.2
            go_simp
            try with_reducible rfl
          try simp only [Act.put, List.setIfInBounds_toArray, List.set_cons_zero, List.set_cons_succ]
          refine ytake_4 (v := ?vv5) (by kernel_rfl) (by kernel_rfl) (by kernel_rfl) (fun _ _ _ h => h) (Or.inl ⟨by rfl, ?hy5⟩) (box4 HBK3.out) ?_
          case hy5 =>
            intro wX hSw
            go_simp
            try with_reducible rfl
          try simp only [Act.put, List.setIfInBounds_toArray, List.set_cons_zero, List.set_cons_succ]
          refine yready_5 (by kernel_rfl) ?_
          intro KQ hK
          rw [if_pos (by rfl)]
          try go_simp
          refine (outlasts_is m.nm AV AD cV cD nV nD m.vis m.dur m.same 0 _ HNV.out HND.out (HRV.out.below HB3.out) (HRD2.out.below HB3.out) (by omega) (by omega) hcV (fun h => by simp at h) (by omega)).mono ?_
          rintro e w4 ⟨v4, rfl, ho4, hb4⟩
          obtain ⟨A4, c4, rfl, _, _, _⟩ := rd_own (by rw [u8s_length] at ho4; exact ho4)
          try go_simp
          have hbk4 := (hb4.block gb (Nat.lt_of_lt_of_le hgb2 HB3.out.size)).trans HBK3.out
          refine hK.out _ _ (box4 hbk4) (fun _ => ?_)
          clear hK KQ
          try simp only [Act.put, List.setIfInBounds_toArray, List.set_cons_zero, List.set_cons_succ]
          refine ytake_6 (v := ?vv6) (by kernel_rfl) (by kernel_rfl) (by kernel_rfl) (fun _ _ _ h => h) (Or.inl ⟨by rfl, ?hy6⟩) (box4 hbk4) ?_
          case hy6 =>
            intro wX hSw
            go_simp
            try with_reducible rfl
          try simp only [Act.put, List.setIfInBounds_toArray, List.set_cons_zero, List.set_cons_succ]
          refine yready_7 (by kernel_rfl) ?_
          intro KQ hK
          rw [if_pos (by rfl)]
          go_simp
          obtain ⟨n4, hn4⟩ : ∃ n4, (outl m.vis m.dur 0).length = n4 := ⟨_, rfl⟩
          rw [hn4] at ho4 ⊢
          obtain ⟨w5, hw5⟩ : ∃ w5, w5 = w4.alloc (.cells #[.string m.nm, .slice A4 n4 c4] 78) := ⟨_, rfl⟩
          have hb5 : Below w4.heap.size w4 w5 := by rw [hw5]; exact (Below.refl _ _).alloc (Nat.le_refl _) _
          have hgx : w5.heap[w4.heap.size]? = some (.cells ([.string m.nm, .slice A4 n4 c4] : List Value).toArray 78 (0, 0)) := by rw [hw5]; exact heap_alloc_new w4 _
          have hbk5 := (hb5.block gb (Nat.lt_of_lt_of_le hgb2 (Nat.le_trans HB3.out.size hb4.size))).trans hbk4
          rw [← hw5]
          refine hK.out _ _ (box4 hbk5) (fun _ => ?_)
          clear hK KQ hw5
          try simp only [Act.put, List.setIfInBounds_toArray, List.set_cons_zero, List.set_cons_succ]
          have hb25 : Below w2.heap.size w2 w5 := HB3.out.trans ((hb4.trans (hb5.mono hb4.size)).mono HB3.out.size)
          have hfs5 := HFS2.out.below hb25
          have hrow5 := hfs5.row
          rw [HXL.out] at hrow5
          obtain ⟨A6, c6, w6, hrun, hown6, hg6, hloc6⟩ := run_app_elem (P := Try.prog) w5 69 69 w.heap.size 78 _ 2 40 Try.underlying69 info_afile rfl (by decide) (by decide) _ k _ hrow5 w4.heap.size [.string m.nm, .slice A4 n4 c4] rfl hgx (by simp; exact ⟨rfl, rfl⟩) (by omega) (Nat.le_trans hbw2.size hb25.size)
          have hbk6 := (hg6.block gb (Nat.lt_of_lt_of_le hgb2 hb25.size) (fun e => by have h1 := (own_lt HFS.out.row e.symm).1; have h2 := HGB.out; omega)).trans hbk5
          refine yready_8 (by kernel_rfl) ?_
          intro KQ hK
          rw [if_pos (by rfl)]
          refine wp_call_run _ (.tmp 40) (.tmp 47) 69 69 rfl rfl rfl hrun ?_
          refine hK.out _ _ (box4 hbk6) (fun _ => ?_)
          clear hK KQ
          try simp only [Act.put, List.setIfInBounds_toArray, List.set_cons_zero, List.set_cons_succ]
          refine ytake_9 (v := ?vv7) (by kernel_rfl) (by kernel_rfl) (by kernel_rfl) (fun _ _ _ h => h) (Or.inl ⟨by rfl, ?hy7⟩) (box4 hbk6) ?_
          case hy7 =>
            intro wX hSw
            go_simp
            try with_reducible rfl
          try simp only [Act.put, List.setIfInBounds_toArray, List.set_cons_zero, List.set_cons_succ]
          refine wpAnyH_done (by kernel_rfl) ?_ _
          have hfs6 : FsOwn w6 w.heap.size (.slice A6 (k + 1) c6) (xs ++ [⟨m.nm, outl m.vis m.dur 0, .slice A4 n4 c4⟩]) :=
            FsOwn.snoc (w := w3) (f := ⟨m.nm, outl m.vis m.dur 0, .slice A4 n4 c4⟩) hfs5 (own_cast (own_below ho4 hb5) (u8s_length _)) (outl_byts HB1.out HB2.out 0) (Nat.le_trans hbw2.size HB3.out.size) HXL.out.symm (fun k' hk' => by
              refine Nat.lt_of_lt_of_le ?_ HB3.out.size
              rcases hk' with hk' | ⟨x, hx, hk'⟩
              · exact (own_lt HFS2.out.row hk').1
              · exact (own_lt (HFS2.out.els x hx).1 hk').1) hown6 hg6 hloc6
          have hbw6 : Below w.heap.size w w6 := belowS_own (hbw2.trans (hb25.mono hbw2.size)) hrow5 hg6 (Nat.le_trans hbw2.size hb25.size)
          have hcr : dCrash D ps0 = (xs ++ ([⟨m.nm, outl m.vis m.dur 0, .slice A4 n4 c4⟩] : List FL)).map FL.pl ++ crashL (D.L.drop (k + 1)) ps := by
            rw [HCR.out, HLK.out, List.map_append, List.append_assoc]
            congr 1
            show crashL (m.pf :: D.L.drop (k + 1)) ps = [(m.nm, outl m.vis m.dur 0)] ++ _
            rw [crashL, if_neg (show ¬ m.pf.vis = m.pf.dur from HNE.out), HPS0.out]
            rfl
          have HFS6 := Lib.hid hfs6
          have HCR6 := Lib.hid hcr
          have HXL6 : Hid ((xs ++ [⟨m.nm, outl m.vis m.dur 0, .slice A4 n4 c4⟩] : List FL).length = k + 1) := by show _ = _; rw [List.length_append, HXL.out]; rfl
          clear hfs6 hcr hrun hown6 hg6 hloc6 hfs5 hrow5 hb25 hgx hbk4 hbk5 hbk6 ho4 hb4 hb5 hn4
          go_wp2_with fail
          go_roundw
          case rel => exact ⟨k + 1, AP, nP, cP, ps, _, by go_num, by omega, rfl, hnP, hcPm, HPL.out, HPD.out, HPS.out, HXL6.out, HCR6.out, HFS6.out, hbw6⟩
          case measure => simp [intOf]; omega
        · obtain ⟨x, pt, hpt⟩ : ∃ x pt, ps = x :: pt := by
            cases ps with
            | nil => have := HPL.out; simp at this; omega
            | cons x pt => exact ⟨x, pt, rfl⟩
          subst hpt
          have HNE := Lib.hid heq
          have i5 : (0 : Int) < (nP : Int) := by omega
          have hxr := HPS.out x (by simp)
          obtain ⟨bp, offp, hAP, hbpl, hpc⟩ := HPD.out.open_ (by simp [i64s])
          have hpx : w2.cell? ⟨bp, offp, none⟩ = some (.int .i64 x) := (hbw2.cell (p := ⟨bp, offp, none⟩) hbpl).trans (by have := hpc 0 (.int .i64 x) rfl; rwa [Nat.add_zero] at this)
          subst hAP
          have hcut := HPD.out.cut (k := 1) (c := cP) (by rw [i64s_length, HPL.out]; exact hnP)
          have HCUT := Lib.hid hcut
          have HPT : Hid (pt.length = nP - 1) := by show _ = _; have := HPL.out; simp at this; omega
          have HPR2 : Hid (∀ y ∈ pt, -9223372036854775808 ≤ y ∧ y ≤ 9223372036854775807) := fun y hy => HPS.out y (by simp [hy])
          refine (bequal_is false AV AD nV cV nD cD m.vis m.dur _ HNV.out HND.out HRV.out HRD2.out HB1.out HB2.out (decide_eq_false heq)).mono ?_
          rintro e w' ⟨rfl, rfl⟩
          clear heq hpc hcut
          have i6 : (1 : Int) ≤ (nP : Int) := by omega
          have i7 : 1 ≤ nP := by omega
          by_cases hc1 : cP = 1
          all_goals
            go_wp2_with fail
            go_quiet (fail)
            obtain ⟨w2q, hw2q⟩ : ∃ w2q, w2q = w2.drewN nq := ⟨_, rfl⟩
            have hbq : Below w2.heap.size w2 w2q := by rw [hw2q]; exact below_n (Below.refl _ _) nq
            have hbk2q := (hbq.block gb hgb2).trans HBK2.out
            have hgb2q : gb < w2q.heap.size := Nat.lt_of_lt_of_le hgb2 hbq.size
            have hbw2q : Below w.heap.size w w2q := hbw2.trans (hbq.mono hbw2.size)
            have HBK2q := Lib.hid hbk2q
            have HRVq := Lib.hid (HRV.out.below hbq)
            have HRD2q := Lib.hid (HRD2.out.below hbq)
            have HFS2q := Lib.hid (HFS2.out.below hbq)
            rw [← hw2q]
            clear hw2q hbq hbk2q hpx
            go_wp2_with fail
          · have HCUT2 : Hid (Rd w (some ⟨bp, offp, none⟩) (i64s pt)) := by
              show Rd w _ _
              have h0 := HCUT.out
              rw [if_pos hc1] at h0
              simpa [i64s] using h0
            obtain ⟨w3, hw3⟩ : ∃ w3, w3 = w2q.drew := ⟨_, rfl⟩
            have hb23 : Below w2q.heap.size w2q w3 := by rw [hw3]; exact (Below.refl _ _).drew
            have hbk3 := (hb23.block gb hgb2q).trans HBK2q.out
            have HB3 := Lib.hid hb23
            have HBK3 := Lib.hid hbk3
            have HW3 := Lib.hid hw3
            clear hw3 hb23 hbk3
            refine wp_region_held_drew (S := fun w' => w'.cell? ⟨gb, 0, none⟩ = some (.string m.nm) ∧ w'.cell? ⟨gb, 1, none⟩ = some (.slice AV nV cV) ∧ w'.cell? ⟨gb, 2, none⟩ = some (.slice AD nD cD) ∧ w'.cell? ⟨gb, 3, none⟩ = some (.int .i64 m.same)) (by kernel_rfl) (by rw [← HW3.out]; exact box4 HBK3.out) (fun _ => ?_)
            rw [← HW3.out]
            refine ytake_0 (v := ?vv8) (by kernel_rfl) (by kernel_rfl) (by kernel_rfl) (fun _ _ _ h => h) (Or.inl ⟨by rfl, ?hy8⟩) (box4 HBK3.out) ?_
            case hy8 =>
              intro wX hSw
              go_simp
              try with_reducible rfl
            try simp only [Act.put, List.setIfInBounds_toArray, List.set_cons_zero, List.set_cons_succ]
            refine ytake_1 (v := ?vv9) (by kernel_rfl) (by kernel_rfl) (by kernel_rfl) (fun _ _ _ h => h) (Or.inl ⟨by rfl, ?hy9⟩) (box4 HBK3.out) ?_
            case hy9 =>
              intro wX hSw
              go_simp
              try with_reducible rfl
            try simp only [Act.put, List.setIfInBounds_toArray, List.set_cons_zero, List.set_cons_succ]
            refine ytake_2 (v := ?vv10) (by kernel_rfl) (by kernel_rfl) (by kernel_rfl) (fun _ _ _ h => h) (Or.inl ⟨by rfl, ?hy10⟩) (box4 HBK3.out) ?_
            case hy10 =>
              intro wX hSw
              have hcc := hSw.1
              go_simp
              try with_reducible rfl
            try simp only [Act.put, List.setIfInBounds_toArray, List.set_cons_zero, List.set_cons_succ]
            refine ytake_3 (v := ?vv11) (by kernel_rfl) (by kernel_rfl) (by kernel_rfl) (fun _ _ _ h => h) (Or.inl ⟨by rfl, ?hy11⟩) (box4 HBK3.out) ?_
            case hy11 =>
              intro wX hSw
              have hc0 := hSw.1
              have hc1 := hSw.2.1
              have hc2 := hSw.2.2.1
              have hc3 := hSw.2.2.2
              go_simp
              try with_reducible rfl
            try simp only [Act.put, List.setIfInBounds_toArray, List.set_cons_zero, List.set_cons_succ]
            refine ytake_4 (v := ?vv12) (by kernel_rfl) (by kernel_rfl) (by kernel_rfl) (fun _ _ _ h => h) (Or.inl ⟨by rfl, ?hy12⟩) (box4 HBK3.out) ?_
            case hy12 =>
              intro wX hSw
              go_simp
              try with_reducible rfl
            try simp only [Act.put, List.setIfInBounds_toArray, List.set_cons_zero, List.set_cons_succ]
            refine yready_5 (by kernel_rfl) ?_
            intro KQ hK
            rw [if_pos (by rfl)]
            try go_simp
            refine (outlasts_is m.nm AV AD cV cD nV nD m.vis m.dur m.same x _ HNV.out HND.out (HRVq.out.below HB3.out) (HRD2q.out.below HB3.out) (by omega) (by omega) hcV (fun _ => hmx) (by omega)).mono ?_
            rintro e w4 ⟨v4, rfl, ho4, hb4⟩
            obtain ⟨A4, c4, rfl, _, _, _⟩ := rd_own (by rw [u8s_length] at ho4; exact ho4)
            try go_simp
            have hbk4 := (hb4.block gb (Nat.lt_of_lt_of_le hgb2q HB3.out.size)).trans HBK3.out
            refine hK.out _ _ (box4 hbk4) (fun _ => ?_)
            clear hK KQ
            try simp only [Act.put, List.setIfInBounds_toArray, List.set_cons_zero, List.set_cons_succ]
            refine ytake_6 (v := ?vv13) (by kernel_rfl) (by kernel_rfl) (by kernel_rfl) (fun _ _ _ h => h) (Or.inl ⟨by rfl, ?hy13⟩) (box4 hbk4) ?_
            case hy13 =>
              intro wX hSw
              go_simp
              try with_reducible rfl
            try simp only [Act.put, List.setIfInBounds_toArray, List.set_cons_zero, List.set_cons_succ]
            refine yready_7 (by kernel_rfl) ?_
            intro KQ hK
            rw [if_pos (by rfl)]
            go_simp
            obtain ⟨n4, hn4⟩ : ∃ n4, (outl m.vis m.dur x).length = n4 := ⟨_, rfl⟩
            rw [hn4] at ho4 ⊢
            obtain ⟨w5, hw5⟩ : ∃ w5, w5 = w4.alloc (.cells #[.string m.nm, .slice A4 n4 c4] 78) := ⟨_, rfl⟩
            have hb5 : Below w4.heap.size w4 w5 := by rw [hw5]; exact (Below.refl _ _).alloc (Nat.le_refl _) _
            have hgx : w5.heap[w4.heap.size]? = some (.cells ([.string m.nm, .slice A4 n4 c4] : List Value).toArray 78 (0, 0)) := by rw [hw5]; exact heap_alloc_new w4 _
            have hbk5 := (hb5.block gb (Nat.lt_of_lt_of_le hgb2q (Nat.le_trans HB3.out.size hb4.size))).trans hbk4
            rw [← hw5]
            refine hK.out _ _ (box4 hbk5) (fun _ => ?_)
            clear hK KQ hw5
            try simp only [Act.put, List.setIfInBounds_toArray, List.set_cons_zero, List.set_cons_succ]
            have hb25 : Below w2q.heap.size w2q w5 := HB3.out.trans ((hb4.trans (hb5.mono hb4.size)).mono HB3.out.size)
            have hfs5 := HFS2q.out.below hb25
            have hrow5 := hfs5.row
            rw [HXL.out] at hrow5
            obtain ⟨A6, c6, w6, hrun, hown6, hg6, hloc6⟩ := run_app_elem (P := Try.prog) w5 69 69 w.heap.size 78 _ 2 40 Try.underlying69 info_afile rfl (by decide) (by decide) _ k _ hrow5 w4.heap.size [.string m.nm, .slice A4 n4 c4] rfl hgx (by simp; exact ⟨rfl, rfl⟩) (by omega) (Nat.le_trans hbw2q.size hb25.size)
            have hbk6 := (hg6.block gb (Nat.lt_of_lt_of_le hgb2q hb25.size) (fun e => by have h1 := (own_lt HFS.out.row e.symm).1; have h2 := HGB.out; omega)).trans hbk5
            refine yready_8 (by kernel_rfl) ?_
            intro KQ hK
            rw [if_pos (by rfl)]
            refine wp_call_run _ (.tmp 40) (.tmp 47) 69 69 rfl rfl rfl hrun ?_
            refine hK.out _ _ (box4 hbk6) (fun _ => ?_)
            clear hK KQ
            try simp only [Act.put, List.setIfInBounds_toArray, List.set_cons_zero, List.set_cons_succ]
            refine ytake_9 (v := ?vv14) (by kernel_rfl) (by kernel_rfl) (by kernel_rfl) (fun _ _ _ h => h) (Or.inl ⟨by rfl, ?hy14⟩) (box4 hbk6) ?_
            case hy14 =>
              intro wX hSw
              go_simp
              try with_reducible rfl
            try simp only [Act.put, List.setIfInBounds_toArray, List.set_cons_zero, List.set_cons_succ]
            refine wpAnyH_done (by kernel_rfl) ?_ _
            have hfs6 : FsOwn w6 w.heap.size (.slice A6 (k + 1) c6) (xs ++ [⟨m.nm, outl m.vis m.dur x, .slice A4 n4 c4⟩]) :=
              FsOwn.snoc (w := w3) (f := ⟨m.nm, outl m.vis m.dur x, .slice A4 n4 c4⟩) hfs5 (own_cast (own_below ho4 hb5) (u8s_length _)) (outl_byts HB1.out HB2.out x) (Nat.le_trans hbw2q.size HB3.out.size) HXL.out.symm (fun k' hk' => by
                refine Nat.lt_of_lt_of_le ?_ HB3.out.size
                rcases hk' with hk' | ⟨x, hx, hk'⟩
                · exact (own_lt HFS2q.out.row hk').1
                · exact (own_lt (HFS2q.out.els x hx).1 hk').1) hown6 hg6 hloc6
            have hbw6 : Below w.heap.size w w6 := belowS_own (hbw2q.trans (hb25.mono hbw2q.size)) hrow5 hg6 (Nat.le_trans hbw2q.size hb25.size)
            have hcr : dCrash D ps0 = (xs ++ ([⟨m.nm, outl m.vis m.dur x, .slice A4 n4 c4⟩] : List FL)).map FL.pl ++ crashL (D.L.drop (k + 1)) pt := by
              rw [HCR.out, HLK.out, List.map_append, List.append_assoc]
              congr 1
              show crashL (m.pf :: D.L.drop (k + 1)) (x :: pt) = [(m.nm, outl m.vis m.dur x)] ++ _
              rw [crashL, if_neg (show ¬ m.pf.vis = m.pf.dur from HNE.out)]
              rfl
            have HFS6 := Lib.hid hfs6
            have HCR6 := Lib.hid hcr
            have HXL6 : Hid ((xs ++ [⟨m.nm, outl m.vis m.dur x, .slice A4 n4 c4⟩] : List FL).length = k + 1) := by show _ = _; rw [List.length_append, HXL.out]; rfl
            clear hfs6 hcr hrun hown6 hg6 hloc6 hfs5 hrow5 hb25 hgx hbk4 hbk5 hbk6 ho4 hb4 hb5 hn4
            go_wp2_with fail
            go_roundw
            case rel => exact ⟨k + 1, some ⟨bp, offp, none⟩, nP - 1, cP - 1, pt, _, by go_num, by omega, by rw [hc1], by omega, by omega, HPT.out, HCUT2.out, HPR2.out, HXL6.out, HCR6.out, HFS6.out, hbw6⟩
            case measure => simp [intOf]; omega
          · have HCUT2 : Hid (Rd w (some ⟨bp, offp + 1, none⟩) (i64s pt)) := by
              show Rd w _ _
              have h0 := HCUT.out
              rw [if_neg hc1] at h0
              simpa [i64s, Addr.add_lit] using h0
            obtain ⟨w3, hw3⟩ : ∃ w3, w3 = w2q.drew := ⟨_, rfl⟩
            have hb23 : Below w2q.heap.size w2q w3 := by rw [hw3]; exact (Below.refl _ _).drew
            have hbk3 := (hb23.block gb hgb2q).trans HBK2q.out
            have HB3 := Lib.hid hb23
            have HBK3 := Lib.hid hbk3
            have HW3 := Lib.hid hw3
            clear hw3 hb23 hbk3
            refine wp_region_held_drew (S := fun w' => w'.cell? ⟨gb, 0, none⟩ = some (.string m.nm) ∧ w'.cell? ⟨gb, 1, none⟩ = some (.slice AV nV cV) ∧ w'.cell? ⟨gb, 2, none⟩ = some (.slice AD nD cD) ∧ w'.cell? ⟨gb, 3, none⟩ = some (.int .i64 m.same)) (by kernel_rfl) (by rw [← HW3.out]; exact box4 HBK3.out) (fun _ => ?_)
            rw [← HW3.out]
            refine ytake_0 (v := ?vv15) (by kernel_rfl) (by kernel_rfl) (by kernel_rfl) (fun _ _ _ h => h) (Or.inl ⟨by rfl, ?hy15⟩) (box4 HBK3.out) ?_
            case hy15 =>
              intro wX hSw
              go_simp
              try with_reducible rfl
            try simp only [Act.put, List.setIfInBounds_toArray, List.set_cons_zero, List.set_cons_succ]
            refine ytake_1 (v := ?vv16) (by kernel_rfl) (by kernel_rfl) (by kernel_rfl) (fun _ _ _ h => h) (Or.inl ⟨by rfl, ?hy16⟩) (box4 HBK3.out) ?_
            case hy16 =>
              intro wX hSw
              go_simp
              try with_reducible rfl
            try simp only [Act.put, List.setIfInBounds_toArray, List.set_cons_zero, List.set_cons_succ]
            refine ytake_2 (v := ?vv17) (by kernel_rfl) (by kernel_rfl) (by kernel_rfl) (fun _ _ _ h => h) (Or.inl ⟨by rfl, ?hy17⟩) (box4 HBK3.out) ?_
            case hy17 =>
              intro wX hSw
              have hcc := hSw.1
              go_simp
              try with_reducible rfl
            try simp only [Act.put, List.setIfInBounds_toArray, List.set_cons_zero, List.set_cons_succ]
            refine ytake_3 (v := ?vv18) (by kernel_rfl) (by kernel_rfl) (by kernel_rfl) (fun _ _ _ h => h) (Or.inl ⟨by rfl, ?hy18⟩) (box4 HBK3.out) ?_
            case hy18 =>
              intro wX hSw
              have hc0 := hSw.1
              have hc1 := hSw.2.1
              have hc2 := hSw.2.2.1
              have hc3 := hSw.2.2.2
              go_simp
              try with_reducible rfl
            try simp only [Act.put, List.setIfInBounds_toArray, List.set_cons_zero, List.set_cons_succ]
            refine ytake_4 (v := ?vv19) (by kernel_rfl) (by kernel_rfl) (by kernel_rfl) (fun _ _ _ h => h) (Or.inl ⟨by rfl, ?hy19⟩) (box4 HBK3.out) ?_
            case hy19 =>
              intro wX hSw
              go_simp
              try with_reducible rfl
            try simp only [Act.put, List.setIfInBounds_toArray, List.set_cons_zero, List.set_cons_succ]
            refine yready_5 (by kernel_rfl) ?_
            intro KQ hK
            rw [if_pos (by rfl)]
            try go_simp
            refine (outlasts_is m.nm AV AD cV cD nV nD m.vis m.dur m.same x _ HNV.out HND.out (HRVq.out.below HB3.out) (HRD2q.out.below HB3.out) (by omega) (by omega) hcV (fun _ => hmx) (by omega)).mono ?_
            rintro e w4 ⟨v4, rfl, ho4, hb4⟩
            obtain ⟨A4, c4, rfl, _, _, _⟩ := rd_own (by rw [u8s_length] at ho4; exact ho4)
            try go_simp
            have hbk4 := (hb4.block gb (Nat.lt_of_lt_of_le hgb2q HB3.out.size)).trans HBK3.out
            refine hK.out _ _ (box4 hbk4) (fun _ => ?_)
            clear hK KQ
            try simp only [Act.put, List.setIfInBounds_toArray, List.set_cons_zero, List.set_cons_succ]
            refine ytake_6 (v := ?vv20) (by kernel_rfl) (by kernel_rfl) (by kernel_rfl) (fun _ _ _ h => h) (Or.inl ⟨by rfl, ?hy20⟩) (box4 hbk4) ?_
            case hy20 =>
              intro wX hSw
              go_simp
              try with_reducible rfl
            try simp only [Act.put, List.setIfInBounds_toArray, List.set_cons_zero, List.set_cons_succ]
            refine yready_7 (by kernel_rfl) ?_
            intro KQ hK
            rw [if_pos (by rfl)]
            go_simp
            obtain ⟨n4, hn4⟩ : ∃ n4, (outl m.vis m.dur x).length = n4 := ⟨_, rfl⟩
            rw [hn4] at ho4 ⊢
            obtain ⟨w5, hw5⟩ : ∃ w5, w5 = w4.alloc (.cells #[.string m.nm, .slice A4 n4 c4] 78) := ⟨_, rfl⟩
            have hb5 : Below w4.heap.size w4 w5 := by rw [hw5]; exact (Below.refl _ _).alloc (Nat.le_refl _) _
            have hgx : w5.heap[w4.heap.size]? = some (.cells ([.string m.nm, .slice A4 n4 c4] : List Value).toArray 78 (0, 0)) := by rw [hw5]; exact heap_alloc_new w4 _
            have hbk5 := (hb5.block gb (Nat.lt_of_lt_of_le hgb2q (Nat.le_trans HB3.out.size hb4.size))).trans hbk4
            rw [← hw5]
            refine hK.out _ _ (box4 hbk5) (fun _ => ?_)
            clear hK KQ hw5
            try simp only [Act.put, List.setIfInBounds_toArray, List.set_cons_zero, List.set_cons_succ]
            have hb25 : Below w2q.heap.size w2q w5 := HB3.out.trans ((hb4.trans (hb5.mono hb4.size)).mono HB3.out.size)
            have hfs5 := HFS2q.out.below hb25
            have hrow5 := hfs5.row
            rw [HXL.out] at hrow5
            obtain ⟨A6, c6, w6, hrun, hown6, hg6, hloc6⟩ := run_app_elem (P := Try.prog) w5 69 69 w.heap.size 78 _ 2 40 Try.underlying69 info_afile rfl (by decide) (by decide) _ k _ hrow5 w4.heap.size [.string m.nm, .slice A4 n4 c4] rfl hgx (by simp; exact ⟨rfl, rfl⟩) (by omega) (Nat.le_trans hbw2q.size hb25.size)
            have hbk6 := (hg6.block gb (Nat.lt_of_lt_of_le hgb2q hb25.size) (fun e => by have h1 := (own_lt HFS.out.row e.symm).1; have h2 := HGB.out; omega)).trans hbk5
            refine yready_8 (by kernel_rfl) ?_
            intro KQ hK
            rw [if_pos (by rfl)]
            refine wp_call_run _ (.tmp 40) (.tmp 47) 69 69 rfl rfl rfl hrun ?_
            refine hK.out _ _ (box4 hbk6) (fun _ => ?_)
            clear hK KQ
            try simp only [Act.put, List.setIfInBounds_toArray, List.set_cons_zero, List.set_cons_succ]
            refine ytake_9 (v := ?vv21) (by kernel_rfl) (by kernel_rfl) (by kernel_rfl) (fun _ _ _ h => h) (Or.inl ⟨by rfl, ?hy21⟩) (box4 hbk6) ?_
            case hy21 =>
              intro wX hSw
              go_simp
              try with_reducible rfl
            try simp only [Act.put, List.setIfInBounds_toArray, List.set_cons_zero, List.set_cons_succ]
            refine wpAnyH_done (by kernel_rfl) ?_ _
            have hfs6 : FsOwn w6 w.heap.size (.slice A6 (k + 1) c6) (xs ++ [⟨m.nm, outl m.vis m.dur x, .slice A4 n4 c4⟩]) :=
              FsOwn.snoc (w := w3) (f := ⟨m.nm, outl m.vis m.dur x, .slice A4 n4 c4⟩) hfs5 (own_cast (own_below ho4 hb5) (u8s_length _)) (outl_byts HB1.out HB2.out x) (Nat.le_trans hbw2q.size HB3.out.size) HXL.out.symm (fun k' hk' => by
                refine Nat.lt_of_lt_of_le ?_ HB3.out.size
                rcases hk' with hk' | ⟨x, hx, hk'⟩
                · exact (own_lt HFS2q.out.row hk').1
                · exact (own_lt (HFS2q.out.els x hx).1 hk').1) hown6 hg6 hloc6
            have hbw6 : Below w.heap.size w w6 := belowS_own (hbw2q.trans (hb25.mono hbw2q.size)) hrow5 hg6 (Nat.le_trans hbw2q.size hb25.size)
            have hcr : dCrash D ps0 = (xs ++ ([⟨m.nm, outl m.vis m.dur x, .slice A4 n4 c4⟩] : List FL)).map FL.pl ++ crashL (D.L.drop (k + 1)) pt := by
              rw [HCR.out, HLK.out, List.map_append, List.append_assoc]
              congr 1
              show crashL (m.pf :: D.L.drop (k + 1)) (x :: pt) = [(m.nm, outl m.vis m.dur x)] ++ _
              rw [crashL, if_neg (show ¬ m.pf.vis = m.pf.dur from HNE.out)]
              rfl
            have HFS6 := Lib.hid hfs6
            have HCR6 := Lib.hid hcr
            have HXL6 : Hid ((xs ++ [⟨m.nm, outl m.vis m.dur x, .slice A4 n4 c4⟩] : List FL).length = k + 1) := by show _ = _; rw [List.length_append, HXL.out]; rfl
            clear hfs6 hcr hrun hown6 hg6 hloc6 hfs5 hrow5 hb25 hgx hbk4 hbk5 hbk6 ho4 hb4 hb5 hn4
            go_wp2_with fail
            go_roundw
            case rel => exact ⟨k + 1, some ⟨bp, offp + 1, none⟩, nP - 1, cP - 1, pt, _, by go_num, by omega, rfl, by omega, by omega, HPT.out, HCUT2.out, HPR2.out, HXL6.out, HCR6.out, HFS6.out, hbw6⟩
            case measure => simp [intOf]; omega
    · have i1 : ¬ ((k : Int) < (nL : Int)) := by omega
      obtain rfl : k = nL := by omega
      go_wp2_with fail
      go_ret
      refine ⟨_, xs, rfl, ?_, HFS.out, hb⟩
      rw [HCR.out, List.drop_of_length_le (by rw [HEQ.out, List.length_map, HN.out]; exact Nat.le_refl _)]
      simp [crashL]

end Go.Proofs.Ytaccmjgnggepjaa
