/-
  Numbers as texts, and texts as numbers, on plain lists. Of no program.
-/
import Derived.Test.YtcfnomnhameleaaGets
import Derived.Test.YtcfnomnhameleaaNum
import Derived.Test.YtcfnomnhameleaaZA
import Derived.Test.YtcfnomnhameleaaLists
import Derived.ProofKit
import Derived.OpenShut
import Derived.SliceStrings
import Derived.ChangeSlices
import Derived.Deep.Slices
import Derived.Deep.Fields
import Derived.ChangeOld
import Derived.Carry
import Derived.SizedLaws
namespace Go.Proofs.Ytcfnomnhameleaa
open Go.RowKit

/-- the text of a number's bytes -/
def numT (n : Int) : ByteArray := strOfNums (vnum n.toNat)
/-- the number that a text is, if it is one -/
def wholeN (s : ByteArray) : Option Nat := (gn 0 0 (byt s)).bind fun p => if p.2 = s.size then some p.1 else none
theorem byt_numT (n : Int) : byt (numT n) = vnum n.toNat := byt_of (vnum_byts _)
theorem numT_size (n : Int) : (numT n).size = (vnum n.toNat).length := by rw [← byt_length, byt_numT]
theorem whole_num {n : Int} (h0 : 0 ≤ n) (h : n < 9223372036854775808) : wholeN (numT n) = some n.toNat := by
  have := get_put (n := n.toNat) (by omega) []
  rw [List.append_nil] at this
  unfold wholeN
  rw [byt_numT, this, numT_size]
  simp
theorem num_whole {s : ByteArray} {m : Nat} (h : wholeN s = some m) : s = numT m ∧ m < 9223372036854775808 := by
  unfold wholeN at h
  cases hg : gn 0 0 (byt s) with
  | none => rw [hg] at h; simp at h
  | some p =>
    obtain ⟨m', k⟩ := p
    rw [hg] at h
    simp only [Option.bind_some] at h
    split at h
    · rename_i hk
      simp only [Option.some.injEq] at h
      subst h
      obtain ⟨r, h1, h2, h3, _⟩ := put_get (byt_byts s) hg
      have hl := congrArg List.length h1
      rw [byt_length, List.length_append, ← h2] at hl
      have hr : r = [] := List.eq_nil_of_length_eq_zero (by omega)
      subst hr
      rw [List.append_nil] at h1
      refine ⟨byt_inj (by rw [byt_numT, Int.toNat_natCast]; exact h1), h3⟩
    · simp at h
theorem numT_inj {m n : Int} (h0 : 0 ≤ m) (h1 : m < 9223372036854775808) (h2 : 0 ≤ n) (h3 : n < 9223372036854775808) (h : numT m = numT n) : m = n := by
  have a := whole_num h0 h1
  rw [h, whole_num h2 h3, Option.some.injEq] at a
  omega

theorem getPuts_byts {x : List Int} {l : List (List Int)} (hx : Byts x) (h : getPuts x = some l) : ∀ s ∈ l, Byts s := fun s hs c hc => by
  refine hx c ?_
  rw [getPuts_get hx h, putPuts]
  refine List.mem_append_right _ (List.mem_flatMap.2 ⟨s, hs, List.mem_append_right _ hc⟩)
theorem map_strs (l : List ByteArray) : (l.map byt).map strOfNums = l := by
  rw [List.map_map]
  conv => rhs; rw [← List.map_id l]
  exact List.map_congr_left fun t _ => by simp only [Function.comp, id]; exact strOfNums_byt t

end Go.Proofs.Ytcfnomnhameleaa
/-
  The walks of the page's own answers on one number.
-/
namespace Go.Proofs.Ytcfnomnhameleaa
open Go.RowKit

theorem vnum_len_below (j : Nat) : ∀ n, n < 128 ^ (j + 1) → (vnum n).length ≤ j + 1 := by
  induction j with
  | zero => intro n hn; rw [vnum_lt (by simpa using hn)]; simp
  | succ j ih =>
    intro n hn
    rcases Nat.lt_or_ge n 128 with h | h
    · rw [vnum_lt h]; simp
    · rw [vnum_ge h]
      have := ih (n / 128) (by rw [pow_up] at hn; exact Nat.div_lt_of_lt_mul hn)
      simp; omega

theorem or128u (m : Nat) : bits .or .u8 ((m : Int) % 128) 128 = (m : Int) % 128 + 128 := by
  have h := u8_or_nat (m % 128) 128 (by omega) (by omega)
  have e : m % 128 ||| 128 = 128 + m % 128 := by rw [Nat.or_comm]; exact nat_join 7 128 (m % 128) (by decide) (by omega)
  rw [e] at h
  have e1 : ((m % 128 : Nat) : Int) = (m : Int) % 128 := by omega
  rw [e1] at h
  rw [show ((128 : Nat) : Int) = 128 from rfl] at h
  rw [h]; omega

set_option maxRecDepth 100000 in
set_option maxHeartbeats 400000 in
theorem rnum_any (n : Nat) (w : World) (hn : n < 9223372036854775808) :
    Calls Try.prog 79 #[.int .i64 n] w (Made w.heap.size 5 w (u8s (vnum n))) := by
  have hlen := vnum_len_le n hn
  go_enter Try.func79, Try.ntmps79
  go_wp2
  go_loopw [0, 3] (fun i v' wr => ∃ (m : Nat) (pre : List Int), i = .int .i64 m ∧ m ≤ n ∧ vnum n = pre ++ vnum m ∧ wr.ownsRow w.heap.size 5 1 v' pre.length (u8s pre) ∧ Below w.heap.size w wr) (fun i _ _ => (intOf i).toNat)
  case atStart => exact ⟨n, [], rfl, by omega, rfl, World.ownsRow_nil _ _ _ _, Below.refl _ _⟩
  case round =>
    obtain ⟨m, pre, rfl, hm, hv, ho, hb⟩ := hrel
    have hpl : pre.length ≤ 9 := by have := congrArg List.length hv; simp at this; omega
    by_cases hlt : m < 128
    · rw [vnum_lt hlt] at hv
      have HV := Lib.hid hv
      clear hv
      have i1 : (m : Int) < 128 := by omega
      go_wp2_with (at_builtin; refine wpList_app_one _ rfl _ _ 60 rfl w.heap.size 5 (.int .u8 0) 1 Try.underlying60 info_u8 rfl (by decide) _ pre.length _ rfl (ho.alloc _) wr.heap.size (.int .u8 m) rfl (cell_new _ _ _) rfl (by omega) (by have := hb.size; simp; omega) ?_)
      intro v' w1 hown1 hb1
      go_wp2
      go_ret
      refine ⟨_, rfl, own_conv hown1 ?_ ?_, (hb.alloc (by have := hb.size; omega) _).trans hb1⟩
      · rw [HV.out, u8s_append]; simp [u8s]
      · rw [HV.out, u8s_length]; simp
    · rw [vnum_ge (n := m) (by omega)] at hv
      have HV := Lib.hid hv
      clear hv
      have i1 : 128 ≤ (m : Int) := by omega
      have b2 := or128u m
      have b3 : ((m : Int) % 128) % 256 = (m : Int) % 128 := by omega
      have i2 : 0 ≤ (m : Int) % 128 := by omega
      have i3 : (m : Int) % 128 < 128 := by omega
      go_wp2_with (at_builtin; refine wpList_app_one _ rfl _ _ 60 rfl w.heap.size 5 (.int .u8 0) 1 Try.underlying60 info_u8 rfl (by decide) _ pre.length _ rfl (ho.alloc _) wr.heap.size (.int .u8 ((m : Int) % 128 + 128)) rfl (cell_new _ _ _) rfl (by omega) (by have := hb.size; simp; omega) ?_)
      intro v' w1 hown1 hb1
      have hown2 := own_conv (n' := (pre ++ [((m % 128 + 128 : Nat) : Int)]).length) (ys := u8s (pre ++ [((m % 128 + 128 : Nat) : Int)])) hown1 (by rw [u8s_append]; simp [u8s]) (by simp)
      have hb2 := (hb.alloc (by have := hb.size; omega) _).trans hb1
      clear hown1 ho hb1 hb
      go_wp2
      go_roundw
      case rel => exact ⟨m / 128, pre ++ [((m % 128 + 128 : Nat) : Int)], by go_num, by omega, by rw [HV.out]; simp, hown2, hb2⟩
      case measure => simp [intOf]; omega

/-- what the page's GetNum tells -/
def rgnVal : Option (Nat × Nat) → Value
  | some (m, k) => .tuple #[.int .i64 (m : Int), .int .i64 (k : Int)]
  | none => .tuple #[.int .i64 0, .int .i64 0]

theorem len_last {acc k : Nat} {c : Int} (hk : k ≤ 8) (ha : acc < 128 ^ k) (hc : c < 128) (h0 : Byt c) :
    ((vnum (acc + c.toNat % 128 * 128 ^ k)).length = k + 1) ↔ ¬ (c = 0 ∧ 0 < k) := by
  have e : c.toNat % 128 = c.toNat := by have := h0.1; omega
  rw [e]
  constructor
  · rintro h ⟨rfl, hk0⟩
    have := vnum_len_below (k - 1) acc (by rw [show k - 1 + 1 = k by omega]; exact ha)
    simp at h
    omega
  · intro h
    have hm : c.toNat * 128 ^ k + 128 ^ k ≤ 128 * 128 ^ k := by
      have := Nat.mul_le_mul_right (128 ^ k) (show c.toNat + 1 ≤ 128 by omega)
      rw [Nat.add_mul] at this
      omega
    refine vnum_len (by omega) (by rw [pow_up]; omega) ?_
    by_cases hz : c = 0
    · left
      have : ¬ 0 < k := fun hk0 => h ⟨hz, hk0⟩
      omega
    · right
      have h1 : 1 ≤ c.toNat := by have := h0.1; omega
      have := Nat.mul_le_mul_right (128 ^ k) h1
      simp
      omega

end Go.Proofs.Ytcfnomnhameleaa
/-
  The walks of the page's own answers on lists.
-/
namespace Go.Proofs.Ytcfnomnhameleaa
open Go.RowKit

set_option maxRecDepth 100000 in
set_option maxHeartbeats 1000000 in
theorem rnums_yes (A : Option Addr) (c n : Nat) (L : List Nat) (w : World) (hz : L.length = n) (hr : Rd w A (i64s (nats L))) (hn : n ≤ 1048576) (h63 : ∀ m ∈ L, m < 9223372036854775808) (hfit : (putNums L).length ≤ 1048576) :
    Calls Try.prog 57 #[.slice A n c] w (Made2 w.heap.size 5 w (u8s (putNums L)) (.bool true)) := by
  rw [putNums, hz] at hfit ⊢
  simp only [List.length_append] at hfit
  have HZ := Lib.hid hz
  have H63 := Lib.hid h63
  clear hz h63
  go_enter Try.func57, Try.ntmps57
  go_wp2_with fail
  refine (rnum_any n _ (by omega)).mono ?_
  rintro e w1 ⟨v, rfl, hown, hb1⟩
  go_wp2_with fail
  go_loopw [4, 5] (fun v i wr => ∃ k K : Nat, i = .int .i64 k ∧ k ≤ n ∧ wr.ownsRow w.heap.size 5 1 v K (u8s (vnum n ++ preN L k)) ∧ Below w.heap.size w wr) (fun _ i _ => n - (intOf i).toNat)
  case atStart => exact ⟨0, _, rfl, by omega, by rw [preN_zero, List.append_nil]; exact hown, hb1⟩
  case round =>
    obtain ⟨k, K, rfl, hk, ho, hb⟩ := hrel
    clear hown hb1
    have hKl := ho.1
    by_cases hlt : k < n
    · obtain ⟨b, off, rfl, hbl, hcell⟩ := (hr.below hb).open_ (by rw [i64s_length, nats_length, HZ.out]; omega)
      have hc1 := hcell k _ (i64s_at (by rw [nats_length, HZ.out]; exact hlt))
      rw [nats_at (by rw [HZ.out]; exact hlt)] at hc1
      obtain ⟨m, hs⟩ : ∃ m, m = L[k]?.getD 0 := ⟨_, rfl⟩
      rw [← hs] at hc1
      have hsome : L[k]? = some m := by rw [hs]; exact getD_some (by rw [HZ.out]; exact hlt)
      have hm63 : m < 9223372036854775808 := by rw [hs]; exact H63.out _ (getD_mem (by rw [HZ.out]; exact hlt))
      have hst := vnums_step hsome
      have hst1 := congrArg List.length hst
      have hle := vnums_le L (k + 1)
      simp only [List.length_append] at hst1
      rw [u8s_length, List.length_append] at hKl
      have hK2 : K + (vnum m).length ≤ 1048576 := by omega
      have HS := Lib.hid hst
      have i0 : (0 : Int) ≤ (k : Int) := by omega
      have i1 : (k : Int) < (n : Int) := by omega
      have i2 : ¬ ((m : Int) < 0) := by omega
      clear hcell hst hst1 hle hs hsome hKl
      go_wp2_with fail
      refine (rnum_any m _ hm63).mono ?_
      rintro e w2 ⟨v2, rfl, ho2, hb2⟩
      obtain ⟨A2, c2, rfl, _, _, hr2, _, hl2⟩ := own_val ho2
      have ho' := own_below ho hb2
      have hl3 : (u8s (vnum m)).length = (vnum m).length := u8s_length _
      rw [hl3] at hl2 ⊢
      have HL2 := Lib.hid hl2
      have HL3 := Lib.hid hl3
      clear hl2 hl3 ho2 ho
      go_wp2_with (at_builtin; refine wpList_app_list _ rfl _ _ 60 rfl w.heap.size 5 (.int .u8 0) 1 Try.underlying60 info_u8 rfl (by decide) _ K _ rfl ho' A2 (vnum m).length c2 (u8s (vnum m)) rfl HL3.out.symm hr2 (u8s_one _) (by omega) (by have := hb.size; have := hb2.size; omega) ?_)
      intro v4 w4 ho4 hb4
      have ho5 : w4.ownsRow w.heap.size 5 1 v4 (K + (vnum m).length) (u8s (vnum n ++ preN L (k + 1))) := own_conv ho4 (by rw [HS.out]; simp only [u8s_append, List.append_assoc]) rfl
      have hb5 := (hb.trans (hb2.mono hb.size)).trans hb4
      clear ho4 ho' hb2 hb4
      go_wp2_with fail
      go_roundw
      case rel => exact ⟨k + 1, _, by go_num, by omega, ho5, hb5⟩
      case measure => simp [intOf]; omega
    · obtain rfl : k = n := by omega
      rw [preN_all HZ.out] at ho
      obtain ⟨A2, c2, rfl, _, _, _, _, hl2⟩ := own_val ho
      rw [u8s_length, List.length_append] at hl2
      have hK2 : K ≤ 1048576 := by omega
      have hK3 : (K : Int) ≤ 1048576 := by omega
      have i1 : ¬ ((k : Int) < (k : Int)) := by omega
      clear hl2
      go_wp2_with fail
      go_ret2
      exact ⟨_, rfl, own_cast ho (by have := ho.1; omega), hb⟩

set_option maxRecDepth 100000 in
set_option maxHeartbeats 1000000 in
theorem rnums_no (A : Option Addr) (c n q : Nat) (l : List Int) (w : World) (hz : l.length = n) (hr : Rd w A (i64s l)) (hn : n ≤ 1048576) (hw : ∀ m ∈ l, m ≤ 9223372036854775807) (hq : Neg l q) :
    Calls Try.prog 57 #[.slice A n c] w fun e w' => e = .returned (.tuple #[.slice none 0 0, .bool false]) ∧ Below w.heap.size w w' := by
  obtain ⟨q1, q2, q3⟩ := hq
  rw [hz] at q1
  have HZ := Lib.hid hz
  have HW := Lib.hid hw
  have H3 := Lib.hid q3
  clear hz hw q3
  have hlen := vnum_len_le n (by omega)
  go_enter Try.func57, Try.ntmps57
  go_wp2_with fail
  refine (rnum_any n _ (by omega)).mono ?_
  rintro e w1 ⟨v, rfl, hown, hb1⟩
  go_wp2_with fail
  go_loopw [4, 5] (fun v i wr => ∃ (k K : Nat) (X : List Value), i = .int .i64 k ∧ k ≤ q ∧ wr.ownsRow w.heap.size 5 1 v K X ∧ K ≤ 9 + 9 * k ∧ Below w.heap.size w wr) (fun _ i _ => n - (intOf i).toNat)
  case atStart => exact ⟨0, _, _, rfl, by omega, hown, by rw [u8s_length]; omega, hb1⟩
  case round =>
    obtain ⟨k, K, X, rfl, hk, ho, hK, hb⟩ := hrel
    clear hown hb1
    have hlt : k < n := by omega
    obtain ⟨b, off, rfl, hbl, hcell⟩ := (hr.below hb).open_ (by rw [i64s_length, HZ.out]; omega)
    have hc1 := hcell k _ (i64s_at (by rw [HZ.out]; exact hlt))
    have hle := HW.out _ (getD_mem (d := 0) (i := k) (by rw [HZ.out]; exact hlt))
    clear hcell
    have i0 : (0 : Int) ≤ (k : Int) := by omega
    have i1 : (k : Int) < (n : Int) := by omega
    by_cases hkq : k < q
    · have h0 := H3.out k hkq
      obtain ⟨m, hm⟩ : ∃ m : Nat, l[k]?.getD 0 = (m : Int) := ⟨(l[k]?.getD 0).toNat, by omega⟩
      rw [hm] at hc1 hle
      have hm63 : m < 9223372036854775808 := by omega
      have hml := vnum_len_le m hm63
      have i2 : ¬ ((m : Int) < 0) := by omega
      clear hm h0 hle
      go_wp2_with fail
      refine (rnum_any m _ hm63).mono ?_
      rintro e w2 ⟨v2, rfl, ho2, hb2⟩
      obtain ⟨A2, c2, rfl, _, _, hr2, _, hl2⟩ := own_val ho2
      have ho' := own_below ho hb2
      have hl3 : (u8s (vnum m)).length = (vnum m).length := u8s_length _
      rw [hl3] at hl2 ⊢
      have HL2 := Lib.hid hl2
      have HL3 := Lib.hid hl3
      clear hl2 hl3 ho2 ho
      go_wp2_with (at_builtin; refine wpList_app_list _ rfl _ _ 60 rfl w.heap.size 5 (.int .u8 0) 1 Try.underlying60 info_u8 rfl (by decide) _ K _ rfl ho' A2 (vnum m).length c2 (u8s (vnum m)) rfl HL3.out.symm hr2 (u8s_one _) (by omega) (by have := hb.size; have := hb2.size; omega) ?_)
      intro v4 w4 ho4 hb4
      have hb5 := (hb.trans (hb2.mono hb.size)).trans hb4
      clear ho' hb2 hb4
      go_wp2_with fail
      go_roundw
      case rel => exact ⟨k + 1, _, _, by go_num, by omega, ho4, by omega, hb5⟩
      case measure => simp [intOf]; omega
    · obtain rfl : k = q := by omega
      go_wp2_with fail
      go_ret2
      exact ⟨rfl, hb⟩

end Go.Proofs.Ytcfnomnhameleaa
/-
  The walks of the page's own answers on texts, and on what lists are read as.
-/
namespace Go.Proofs.Ytcfnomnhameleaa
open Go.RowKit

set_option maxRecDepth 100000 in
set_option maxHeartbeats 1000000 in
theorem rput_yes (A : Option Addr) (c n : Nat) (L : List ByteArray) (w : World) (hz : L.length = n) (hr : Rd w A (strs L)) (hn : n ≤ 1048576) (hfit : (putPuts (L.map byt)).length ≤ 1048576) :
    Calls Try.prog 58 #[.slice A n c] w (Made2 w.heap.size 5 w (u8s (putPuts (L.map byt))) (.bool true)) := by
  rw [putPuts_byt, hz] at hfit ⊢
  simp only [List.length_append] at hfit
  have HZ := Lib.hid hz
  clear hz
  have hcv := fun (w : World) (s : ByteArray) => Lib.run_convert_string_bytes (P := Try.prog) w 9 60 5 s Try.underlying9 Try.underlying60 Try.underlying5
  go_enter Try.func58, Try.ntmps58
  go_wp2_with fail
  refine (rnum_any n _ (by omega)).mono ?_
  rintro e w1 ⟨v, rfl, hown, hb1⟩
  go_wp2_with fail
  go_loopw [4, 5] (fun v i wr => ∃ k K : Nat, i = .int .i64 k ∧ k ≤ n ∧ wr.ownsRow w.heap.size 5 1 v K (u8s (vnum n ++ preT L k)) ∧ Below w.heap.size w wr) (fun _ i _ => n - (intOf i).toNat)
  case atStart => exact ⟨0, _, rfl, by omega, by rw [preT_zero, List.append_nil]; exact hown, hb1⟩
  case round =>
    obtain ⟨k, K, rfl, hk, ho, hb⟩ := hrel
    clear hown hb1
    have hKl := ho.1
    by_cases hlt : k < n
    · obtain ⟨b, off, rfl, hbl, hcell⟩ := (hr.below hb).open_ (by rw [strs_length, HZ.out]; omega)
      have hc1 := hcell k _ (strs_at (by rw [HZ.out]; exact hlt))
      obtain ⟨s, hs⟩ : ∃ s, s = L[k]?.getD ByteArray.empty := ⟨_, rfl⟩
      rw [← hs] at hc1
      have hsome : L[k]? = some s := by rw [hs]; exact getD_some (by rw [HZ.out]; exact hlt)
      have hst := vputs_step hsome
      have hst1 := congrArg List.length hst
      have hle := vputs_le L (k + 1)
      simp only [List.length_append, byt_length] at hst1
      rw [u8s_length, List.length_append] at hKl
      have hK2 : K + ((vnum s.size).length + s.size) ≤ 1048576 := by omega
      have hs63 : s.size < 9223372036854775808 := by omega
      have HS := Lib.hid hst
      have HC := Lib.hid hc1
      have i0 : (0 : Int) ≤ (k : Int) := by omega
      have i1 : (k : Int) < (n : Int) := by omega
      clear hcell hst hst1 hle hs hsome hKl
      go_wp2_with fail
      refine (rnum_any s.size _ hs63).mono ?_
      rintro e w2 ⟨v2, rfl, ho2, hb2⟩
      obtain ⟨A2, c2, rfl, _, _, hr2, _, hl2⟩ := own_val ho2
      have ho' := own_below ho hb2
      have hl3 : (u8s (vnum s.size)).length = (vnum s.size).length := u8s_length _
      rw [hl3] at hl2 ⊢
      have HL2 := Lib.hid hl2
      have HL3 := Lib.hid hl3
      clear hl2 hl3 ho2 ho
      go_wp2_with (at_builtin; refine wpList_app_list _ rfl _ _ 60 rfl w.heap.size 5 (.int .u8 0) 1 Try.underlying60 info_u8 rfl (by decide) _ K _ rfl ho' A2 (vnum s.size).length c2 (u8s (vnum s.size)) rfl HL3.out.symm hr2 (u8s_one _) (by omega) (by have := hb.size; have := hb2.size; omega) ?_)
      intro v4 w4 ho4 hb4
      have hb5 := (hb.trans (hb2.mono hb.size)).trans hb4
      obtain ⟨K4, hK4⟩ : ∃ K4, K4 = K + (vnum s.size).length := ⟨_, rfl⟩
      rw [← hK4] at ho4
      have hK5 : K4 + s.size ≤ 1048576 := by omega
      have HK4 := Lib.hid hK4
      clear ho' hb2 hb4 hc1 hK4
      have hc2 : w4.cell? ⟨b, off + k, none⟩ = some (.string s) := by
        obtain ⟨b', off', hA, _, hcl⟩ := (hr.below hb5).open_ (by rw [strs_length, HZ.out]; omega)
        cases hA
        have := hcl k _ (strs_at (by rw [HZ.out]; exact hlt))
        have h2 := HC.out
        obtain ⟨b'', off'', hA', _, hcl'⟩ := (hr.below hb).open_ (by rw [strs_length, HZ.out]; omega)
        cases hA'
        have h3 := hcl' k _ (strs_at (by rw [HZ.out]; exact hlt))
        rw [h2] at h3
        rw [this, ← h3]
      have hrd := text_rd w4 5 s
      have hbt := text_below w4 5 s
      have hln : (Lib.strCells s).length = s.size := Lib.strCells_length s
      have HLN := Lib.hid hln
      clear hln
      have ho5 := own_below ho4 hbt
      go_wp2_with (at_builtin; refine wpList_app_list _ rfl _ _ 60 rfl w.heap.size 5 (.int .u8 0) 1 Try.underlying60 info_u8 rfl (by decide) _ K4 _ rfl ho5 _ s.size _ (Lib.strCells s) rfl HLN.out.symm hrd (Lib.strCells_oneCell s) (by omega) (by have := hb5.size; have := hbt.size; omega) ?_)
      intro v6 w6 ho6 hb6
      have ho7 : w6.ownsRow w.heap.size 5 1 v6 (K4 + s.size) (u8s (vnum n ++ preT L (k + 1))) := own_conv ho6 (by rw [HS.out, ← byt_cells]; simp only [u8s_append, List.append_assoc]) rfl
      have hb7 := (hb5.trans (hbt.mono hb5.size)).trans hb6
      clear ho4 ho5 ho6 hb6 hbt hrd
      obtain ⟨K7, hK7⟩ : ∃ K7, K7 = K4 + s.size := ⟨_, rfl⟩
      rw [← hK7] at ho7
      have hK8 : ¬ (1048576 < (K7 : Int)) := by omega
      clear hK7
      obtain ⟨A7, c7, rfl, _, _, _, _, hl7⟩ := own_val ho7
      clear hl7
      go_wp2_with fail
      go_roundw
      case rel => exact ⟨k + 1, K7, by go_num, by omega, ho7, hb7⟩
      case measure => simp [intOf]; omega
    · obtain rfl : k = n := by omega
      rw [preT_all HZ.out] at ho
      obtain ⟨A2, c2, rfl, _, _, _, _, hl2⟩ := own_val ho
      rw [u8s_length, List.length_append] at hl2
      have hK2 : K ≤ 1048576 := by omega
      have hK3 : (K : Int) ≤ 1048576 := by omega
      have i1 : ¬ ((k : Int) < (k : Int)) := by omega
      clear hl2
      go_wp2_with fail
      go_ret2
      exact ⟨_, rfl, own_cast ho (by have := ho.1; omega), hb⟩

/-! ### what lists are read as -/
/-- a list that the page reads, or none -/
def RGot (B : Nat) (e : TypeId) (w : World) (r : Option (List Value)) (en : Ending) (w' : World) : Prop :=
  match r with
  | some xs => Made2 B e w xs (.bool true) en w'
  | none => ∃ v, en = .returned (.tuple #[v, .bool false]) ∧ Below B w w'
theorem rgot_some {B : Nat} {e : TypeId} {w w' : World} {r : Option (List Value)} {xs : List Value} {en : Ending} (h : r = some xs) (k : Made2 B e w xs (.bool true) en w') : RGot B e w r en w' := by rw [h]; exact k
theorem rgot_none {B : Nat} {e : TypeId} {w w' : World} {r : Option (List Value)} {en : Ending} (v : Value) (h : r = none) (k : en = .returned (.tuple #[v, .bool false])) (hb : Below B w w') : RGot B e w r en w' := by rw [h]; exact ⟨v, k, hb⟩

theorem over_none {zs : List Int} {m k : Nat} (hy : Byts zs) (hg : gn 0 0 zs = some (m, k)) (hlong : zs.length < m) : getNums zs = none ∧ getPuts zs = none := by
  rw [leftN_start hg, leftT_start hg]
  exact ⟨leftN_over (hy.drop k) (by simp; omega), leftT_over (hy.drop k) (by simp; omega)⟩

/-- the same, and what comes with a false is a slice too -/
def RGotS (B : Nat) (e : TypeId) (w : World) (r : Option (List Value)) (en : Ending) (w' : World) : Prop :=
  match r with
  | some xs => Made2 B e w xs (.bool true) en w'
  | none => ∃ A n c, en = .returned (.tuple #[.slice A n c, .bool false]) ∧ Below B w w'
theorem rgotS_some {B : Nat} {e : TypeId} {w w' : World} {r : Option (List Value)} {xs : List Value} {en : Ending} (h : r = some xs) (k : Made2 B e w xs (.bool true) en w') : RGotS B e w r en w' := by rw [h]; exact k
theorem rgotS_none {B : Nat} {e : TypeId} {w w' : World} {r : Option (List Value)} {en : Ending} (v : Value) (hv : ∃ A n c, v = .slice A n c) (h : r = none) (k : en = .returned (.tuple #[v, .bool false])) (hb : Below B w w') : RGotS B e w r en w' := by
  obtain ⟨A, n, c, rfl⟩ := hv
  rw [h]
  exact ⟨A, n, c, k, hb⟩
theorem RGotS.weak {B : Nat} {e : TypeId} {w w' : World} {r : Option (List Value)} {en : Ending} (h : RGotS B e w r en w') : RGot B e w r en w' := by
  cases r with
  | some xs => exact h
  | none => obtain ⟨A, n, c, he, hb⟩ := h; exact ⟨_, he, hb⟩

end Go.Proofs.Ytcfnomnhameleaa
/-
  The page's own walks: numbers as texts and back.
-/
namespace Go.Proofs.Ytcfnomnhameleaa
open Go.RowKit

/-- string(b) of some bytes -/
theorem conv_rd {P : Program} (w : World) {A : Option Addr} {n : Nat} {zs : List Int} (hz : zs.length = n) (h0 : 0 < n) (hr : Rd w A (u8s zs)) (src e dst : TypeId) (hs : P.underlying src = some (.slice e)) (he : P.underlying e = some (.int .u8)) (hd : P.underlying dst = some .string) (c : Nat) :
    (convert src dst (.slice A n c)).run P w = .ok (.string (strOfNums zs)) w := by
  subst hz
  obtain ⟨b, off, rfl, _, hc⟩ := hr.open_ (by rw [u8s_length]; exact h0)
  refine run_convert_bytes_arg w src e hs he b off zs.length c zs rfl (fun i hi => ?_) dst hd
  rw [hc i _ (u8s_at hi)]
  rw [List.getD_eq_getElem?_getD]

theorem rnumT_any (n : Int) (w : World) (h0 : 0 ≤ n) (h : n < 9223372036854775808) :
    Calls Try.prog 59 #[.int .i64 n] w (Tells w.heap.size w (.string (numT n))) := by
  obtain ⟨m, rfl⟩ : ∃ m : Nat, n = (m : Int) := ⟨n.toNat, by omega⟩
  have hpos := vnum_pos m
  obtain ⟨K, hK⟩ : ∃ K, (vnum m).length = K := ⟨_, rfl⟩
  rw [hK] at hpos
  have HK := Lib.hid hK
  clear hK
  go_enter Try.func59, Try.ntmps59
  go_wp2_with fail
  refine (rnum_any m _ (by omega)).mono ?_
  rintro e w1 ⟨v, rfl, ho, hb⟩
  have ho1 := own_cast ho ((u8s_length _).trans HK.out)
  obtain ⟨A, c, rfl, _, _, hr, _, hl⟩ := own_val ho1
  clear hl ho ho1
  have hcv := fun c => conv_rd (P := Try.prog) w1 HK.out hpos hr 60 5 9 Try.underlying60 Try.underlying5 Try.underlying9 c
  go_wp2_with fail
  go_ret
  exact ⟨by simp [numT], hb⟩

/-- some number, and whether the text is one -/
def Whole (s : ByteArray) (w : World) (e : Ending) (w' : World) : Prop :=
  ∃ (x : Int) (b : Bool), e = .returned (.tuple #[.int .i64 x, .bool b]) ∧ Below w.heap.size w w' ∧ (wholeN s).isSome = b ∧ (∀ m, wholeN s = some m → x = (m : Int))
theorem ret_wpair {k : IntKind} {x : Int} {a b : Bool} (h : a = b) : Ending.returned (.tuple #[.int k x, .bool a]) = .returned (.tuple #[.int k x, .bool b]) := by rw [h]

theorem whole_none {s : ByteArray} (h : gn 0 0 (byt s) = none) : wholeN s = none := by unfold wholeN; rw [h]; rfl
theorem whole_like {s : ByteArray} {m k : Nat} (h : gn 0 0 (byt s) = some (m, k)) (hk : k = s.size) : wholeN s = some m := by unfold wholeN; rw [h]; simp [hk]
theorem whole_unlike {s : ByteArray} {m k : Nat} (h : gn 0 0 (byt s) = some (m, k)) (hk : k ≠ s.size) : wholeN s = none := by unfold wholeN; rw [h]; simp [hk]

end Go.Proofs.Ytcfnomnhameleaa
/-
  Batches as bytes, on plain lists: what a batch's texts are, what texts are read as, and that the two are inverse to each other. Of no program.
-/
namespace Go.Proofs.Ytcfnomnhameleaa
open Go.RowKit

def idB (n : Int) : Bool := decide (1 ≤ n ∧ n ≤ 1099511627776)
def txB (t : TxD) : Bool := decide (idB t.s = true ∧ idB t.q = true ∧ 1 ≤ t.k.size ∧ t.k.size ≤ 16 ∧ t.v.size ≤ 32)
def batB (a n : Int) (L : List TxD) : Bool := decide ((1 ≤ a ∧ a ≤ 16) ∧ idB n = true ∧ 1 ≤ L.length ∧ L.length ≤ 8 ∧ L.all txB = true)

/-- a transaction's texts, and a batch's -/
def TxD.texts (t : TxD) : List ByteArray := [numT t.s, numT t.q, t.k, t.v]
def batchW : ByteArray := ⟨#[98, 97, 116, 99, 104]⟩
def batTexts (a n : Int) (L : List TxD) : List ByteArray := [batchW, numT a, numT n] ++ L.flatMap TxD.texts
def batBytes (a n : Int) (L : List TxD) : List Int := putPuts ((batTexts a n L).map byt)
theorem texts_length (L : List TxD) : (L.flatMap TxD.texts).length = 4 * L.length := by
  induction L with
  | nil => rfl
  | cons t L ih => rw [List.flatMap_cons, List.length_append, ih]; simp [TxD.texts]; omega
theorem batTexts_length (a n : Int) (L : List TxD) : (batTexts a n L).length = 3 + 4 * L.length := by
  rw [batTexts, List.length_append, texts_length]; rfl

/-- the transactions that texts are, four by four; and whether all their numbers are numbers -/
def rdT : List ByteArray → List TxD × Bool
  | s :: q :: k :: v :: r => (⟨((wholeN s).getD 0 : Nat), ((wholeN q).getD 0 : Nat), k, v⟩ :: (rdT r).1, ((wholeN s).isSome && (wholeN q).isSome) && (rdT r).2)
  | _ => ([], true)
theorem rdT_nil : rdT [] = ([], true) := rfl
theorem rdT_four (s q k v : ByteArray) (r : List ByteArray) : rdT (s :: q :: k :: v :: r) = (⟨((wholeN s).getD 0 : Nat), ((wholeN q).getD 0 : Nat), k, v⟩ :: (rdT r).1, ((wholeN s).isSome && (wholeN q).isSome) && (rdT r).2) := rfl
theorem four {r : List ByteArray} {j : Nat} (h : r.length = 4 * (j + 1)) : ∃ s q k v r', r = s :: q :: k :: v :: r' ∧ r'.length = 4 * j := by
  match r, h with
  | s :: q :: k :: v :: r', h => exact ⟨s, q, k, v, r', rfl, by simp at h; omega⟩
theorem rdT_snoc (s q k v : ByteArray) : ∀ (j : Nat) (r : List ByteArray), r.length = 4 * j →
    rdT (r ++ [s, q, k, v]) = ((rdT r).1 ++ [⟨((wholeN s).getD 0 : Nat), ((wholeN q).getD 0 : Nat), k, v⟩], (rdT r).2 && ((wholeN s).isSome && (wholeN q).isSome))
  | 0, r, h => by
    have : r = [] := List.eq_nil_of_length_eq_zero (by omega)
    subst this
    simp [rdT]
  | j + 1, r, h => by
    obtain ⟨s', q', k', v', r', rfl, hl⟩ := four h
    have ih := rdT_snoc s q k v j r' hl
    show rdT (s' :: q' :: k' :: v' :: (r' ++ [s, q, k, v])) = _
    rw [rdT_four, ih, rdT_four]
    simp [Bool.and_assoc]
theorem rdT_texts : ∀ (L : List TxD), (∀ t ∈ L, (0 ≤ t.s ∧ t.s < 9223372036854775808) ∧ 0 ≤ t.q ∧ t.q < 9223372036854775808) → rdT (L.flatMap TxD.texts) = (L, true)
  | [], _ => rfl
  | t :: L, h => by
    obtain ⟨⟨h0, h1⟩, h2, h3⟩ := h t (by simp)
    have ih := rdT_texts L fun x hx => h x (by simp [hx])
    rw [List.flatMap_cons]
    show rdT (numT t.s :: numT t.q :: t.k :: t.v :: L.flatMap TxD.texts) = _
    rw [rdT_four, ih, whole_num h0 h1, whole_num h2 h3]
    simp only [Option.getD_some, Option.isSome_some, Bool.and_true, Prod.mk.injEq, and_true, List.cons.injEq]
    rw [Int.toNat_of_nonneg h0, Int.toNat_of_nonneg h2]
theorem texts_rdT : ∀ (j : Nat) (r : List ByteArray) (L : List TxD), r.length = 4 * j → rdT r = (L, true) → r = L.flatMap TxD.texts
  | 0, r, L, h, e => by
    have : r = [] := List.eq_nil_of_length_eq_zero (by omega)
    subst this
    rw [rdT_nil, Prod.mk.injEq] at e
    rw [← e.1]; rfl
  | j + 1, r, L, h, e => by
    obtain ⟨s, q, k, v, r', rfl, hl⟩ := four h
    rw [rdT_four, Prod.mk.injEq] at e
    obtain ⟨e1, e2⟩ := e
    rw [Bool.and_eq_true, Bool.and_eq_true, Option.isSome_iff_exists, Option.isSome_iff_exists] at e2
    obtain ⟨⟨⟨m, hm⟩, ⟨m', hm'⟩⟩, e3⟩ := e2
    have ih := texts_rdT j r' (rdT r').1 hl (by rw [← e3])
    obtain ⟨g1, _⟩ := num_whole hm
    obtain ⟨g2, _⟩ := num_whole hm'
    rw [hm, hm'] at e1
    rw [← e1, List.flatMap_cons, ← ih]
    simp only [TxD.texts, Option.getD_some, ← g1, ← g2]
    rfl
theorem rdT_length : ∀ (j : Nat) (r : List ByteArray), r.length = 4 * j → (rdT r).1.length = j
  | 0, r, h => by
    have : r = [] := List.eq_nil_of_length_eq_zero (by omega)
    subst this; rfl
  | j + 1, r, h => by
    obtain ⟨s, q, k, v, r', rfl, hl⟩ := four h
    rw [rdT_four]
    simp [rdT_length j r' hl]

/-- the batch that texts are, if it is one that may be -/
def textsB : List ByteArray → Option (Int × Int × List TxD)
  | w :: x :: y :: r =>
    if w = batchW ∧ 4 ≤ r.length ∧ r.length % 4 = 0 ∧ (wholeN x).isSome ∧ (wholeN y).isSome ∧ (rdT r).2 = true ∧ batB ((wholeN x).getD 0 : Nat) ((wholeN y).getD 0 : Nat) (rdT r).1 = true
    then some (((wholeN x).getD 0 : Nat), ((wholeN y).getD 0 : Nat), (rdT r).1) else none
  | _ => none
theorem textsB_three (w x y : ByteArray) (r : List ByteArray) : textsB (w :: x :: y :: r) =
    if w = batchW ∧ 4 ≤ r.length ∧ r.length % 4 = 0 ∧ (wholeN x).isSome ∧ (wholeN y).isSome ∧ (rdT r).2 = true ∧ batB ((wholeN x).getD 0 : Nat) ((wholeN y).getD 0 : Nat) (rdT r).1 = true
    then some ((((wholeN x).getD 0 : Nat) : Int), (((wholeN y).getD 0 : Nat) : Int), (rdT r).1) else none := rfl
def parseB (x : List Int) : Option (Int × Int × List TxD) := (getPuts x).bind fun l => textsB (l.map strOfNums)

theorem idB_lt {n : Int} (h : idB n = true) : 0 ≤ n ∧ n < 9223372036854775808 := by
  have : 1 ≤ n ∧ n ≤ 1099511627776 := by simpa [idB] using h
  omega
theorem bat_all {a n : Int} {L : List TxD} (h : batB a n L = true) : (0 ≤ a ∧ a < 9223372036854775808) ∧ (0 ≤ n ∧ n < 9223372036854775808) ∧ (1 ≤ L.length ∧ L.length ≤ 8) ∧
    ∀ t ∈ L, ((0 ≤ t.s ∧ t.s < 9223372036854775808) ∧ 0 ≤ t.q ∧ t.q < 9223372036854775808) ∧ t.k.size ≤ 16 ∧ t.v.size ≤ 32 := by
  obtain ⟨⟨h1, h2⟩, h3, h4, h5, h6⟩ : (1 ≤ a ∧ a ≤ 16) ∧ idB n = true ∧ 1 ≤ L.length ∧ L.length ≤ 8 ∧ L.all txB = true := by simpa only [batB, decide_eq_true_eq] using h
  refine ⟨by omega, idB_lt h3, ⟨h4, h5⟩, fun t ht => ?_⟩
  obtain ⟨k1, k2, k3, k4, k5⟩ : idB t.s = true ∧ idB t.q = true ∧ 1 ≤ t.k.size ∧ t.k.size ≤ 16 ∧ t.v.size ≤ 32 := by
    have := List.all_eq_true.1 h6 t ht
    simpa only [txB, decide_eq_true_eq] using this
  exact ⟨⟨idB_lt k1, idB_lt k2⟩, k4, k5⟩
theorem textsB_put {a n : Int} {L : List TxD} (h : batB a n L = true) : textsB (batTexts a n L) = some (a, n, L) := by
  obtain ⟨⟨a0, a1⟩, ⟨n0, n1⟩, ⟨l0, _⟩, ht⟩ := bat_all h
  have hr := rdT_texts L fun t h => (ht t h).1
  have hl := texts_length L
  show textsB (batchW :: numT a :: numT n :: L.flatMap TxD.texts) = _
  rw [textsB_three, hr, whole_num a0 a1, whole_num n0 n1]
  simp only [Option.getD_some, Option.isSome_some]
  rw [Int.toNat_of_nonneg a0, Int.toNat_of_nonneg n0, if_pos (by exact ⟨trivial, by omega, by omega, trivial, trivial, trivial, h⟩)]
theorem textsB_get {l : List ByteArray} {a n : Int} {L : List TxD} (h : textsB l = some (a, n, L)) : batB a n L = true ∧ l = batTexts a n L := by
  match l, h with
  | w :: x :: y :: r, h =>
    rw [textsB_three] at h
    split at h
    · rename_i hc
      obtain ⟨h1, h2, h3, h4, h5, h6, h7⟩ := hc
      simp only [Option.some.injEq, Prod.mk.injEq] at h
      obtain ⟨e1, e2, e3⟩ := h
      rw [Option.isSome_iff_exists] at h4 h5
      obtain ⟨m, hm⟩ := h4
      obtain ⟨m', hm'⟩ := h5
      rw [e1, e2, e3] at h7
      rw [hm] at e1
      rw [hm'] at e2
      simp only [Option.getD_some] at e1 e2
      have hr := texts_rdT (r.length / 4) r L (by omega) (by rw [← e3, ← h6])
      refine ⟨h7, ?_⟩
      rw [batTexts, ← hr, h1, (num_whole hm).1, (num_whole hm').1, e1, e2]
      rfl
    · simp at h
theorem size_le (a n : Int) (L : List TxD) (h : batB a n L = true) : ∀ s ∈ (batTexts a n L).map byt, s.length < 9223372036854775808 := by
  obtain ⟨⟨a0, a1⟩, ⟨n0, n1⟩, _, ht⟩ := bat_all h
  have hn : ∀ m : Int, 0 ≤ m → m < 9223372036854775808 → (byt (numT m)).length < 9223372036854775808 := fun m h0 h1 => by
    rw [byt_numT]
    have := vnum_len_le m.toNat (by omega)
    omega
  intro s hs
  obtain ⟨t, ht', rfl⟩ := List.mem_map.1 hs
  rw [batTexts] at ht'
  rcases List.mem_append.1 ht' with h' | h'
  · simp only [List.mem_cons, List.not_mem_nil, or_false] at h'
    rcases h' with rfl | rfl | rfl
    · decide
    · exact hn _ a0 a1
    · exact hn _ n0 n1
  · obtain ⟨t', hm, hx⟩ := List.mem_flatMap.1 h'
    obtain ⟨⟨⟨s0, s1⟩, q0, q1⟩, k1, v1⟩ := ht t' hm
    simp only [TxD.texts, List.mem_cons, List.not_mem_nil, or_false] at hx
    rcases hx with rfl | rfl | rfl | rfl
    · exact hn _ s0 s1
    · exact hn _ q0 q1
    · rw [byt_length]; omega
    · rw [byt_length]; omega
theorem parse_put {a n : Int} {L : List TxD} (h : batB a n L = true) : parseB (batBytes a n L) = some (a, n, L) := by
  unfold parseB batBytes
  have := bat_all h
  rw [getPuts_put (size_le a n L h) (by rw [List.length_map, batTexts_length]; omega), Option.bind_some, map_strs, textsB_put h]
theorem parse_get {x : List Int} {a n : Int} {L : List TxD} (hx : Byts x) (h : parseB x = some (a, n, L)) : batB a n L = true ∧ x = batBytes a n L := by
  unfold parseB at h
  cases hg : getPuts x with
  | none => rw [hg] at h; simp at h
  | some l =>
    rw [hg, Option.bind_some] at h
    obtain ⟨h1, h2⟩ := textsB_get h
    have h3 := getPuts_get hx hg
    refine ⟨h1, ?_⟩
    rw [batBytes, ← h2, h3]
    congr 1
    have hall : ∀ s ∈ l, Byts s := getPuts_byts hx hg
    rw [List.map_map]
    conv => lhs; rw [← List.map_id l]
    exact List.map_congr_left fun s hs => by simp only [Function.comp, id]; exact (byt_of (hall s hs)).symm
theorem parse_more {a n : Int} {L : List TxD} (h : batB a n L = true) {r : List Int} (hr : r ≠ []) : parseB (batBytes a n L ++ r) = none := by
  unfold parseB batBytes
  have := bat_all h
  rw [getPuts_more (size_le a n L h) (by rw [List.length_map, batTexts_length]; omega) hr]
  rfl
theorem batBytes_byts (a n : Int) (L : List TxD) : Byts (batBytes a n L) := putPuts_byts _ fun s hs => by
  obtain ⟨t, _, rfl⟩ := List.mem_map.1 hs
  exact byt_byts t
theorem parse_short {a n : Int} {L : List TxD} (h : batB a n L = true) {k : Nat} (hk : k < (batBytes a n L).length) : parseB ((batBytes a n L).take k) = none := by
  unfold parseB batBytes at *
  have := bat_all h
  rw [getPuts_short (fun s hs => by obtain ⟨t, _, rfl⟩ := List.mem_map.1 hs; exact byt_byts t) (size_le a n L h) (by rw [List.length_map, batTexts_length]; omega) hk]
  rfl
theorem bytes_inj {a n a' n' : Int} {L L' : List TxD} (h : batB a n L = true) (h' : batB a' n' L' = true) (e : batBytes a n L = batBytes a' n' L') : a = a' ∧ n = n' ∧ L = L' := by
  have := parse_put h
  rw [e, parse_put h', Option.some.injEq, Prod.mk.injEq, Prod.mk.injEq] at this
  exact ⟨this.1.symm, this.2.1.symm, this.2.2.symm⟩

end Go.Proofs.Ytcfnomnhameleaa
/-
  Headers and certificates on plain lists: which may be, a header's bytes, what bytes are read as, and that the two are inverse to each other. Of no program.
-/
namespace Go.Proofs.Ytcfnomnhameleaa
open Go.RowKit

/-! ### which may be -/
def risB (l : List Int) : Bool := match l with
  | [] => true
  | x :: r => (match r with | [] => true | y :: _ => decide (x < y)) && risB r
def betB (lo hi : Int) (l : List Int) : Bool := l.all fun x => decide (lo ≤ x ∧ x ≤ hi)
def digsB (l : List Int) (most : Int) : Bool := decide ((l.length : Int) ≤ most) && (betB 1 65536 l && risB l)
/-- a committee? and how many are enough -/
def mayB (n : Int) : Bool := decide (1 ≤ n ∧ n ≤ 16 ∧ n % 3 = 1)
def quoN (n : Int) : Int := 2 * (n / 3) + 1
/-- a header that has bytes -/
def wideB (a r : Int) (B P : List Int) : Bool := decide ((1 ≤ a ∧ a ≤ 16) ∧ (1 ≤ r ∧ r ≤ 1099511627776) ∧ digsB B 8 = true ∧ digsB P 16 = true ∧ (1 < r ∨ P.length = 0))
/-- a header that may be among n nodes -/
def hdrB (a r : Int) (B P : List Int) (n : Int) : Bool := decide (mayB n = true ∧ (1 ≤ a ∧ a ≤ n) ∧ (1 ≤ r ∧ r ≤ 1099511627776) ∧ digsB B 8 = true ∧ digsB P n = true ∧ (if r = 1 then P.length = 0 else quoN n ≤ (P.length : Int)))
/-- a certificate that may be -/
def certB (a r : Int) (B P : List Int) (d : Int) (S : List Int) (n : Int) : Bool := decide (hdrB a r B P n = true ∧ (1 ≤ d ∧ d ≤ 65536) ∧ risB S = true ∧ betB 1 n S = true ∧ quoN n ≤ (S.length : Int))

theorem risB_cons {x y : Int} {r : List Int} : risB (x :: y :: r) = (decide (x < y) && risB (y :: r)) := rfl
/-- rising: each is below the next -/
theorem risB_iff : ∀ {l : List Int}, risB l = true ↔ ∀ (i : Nat) (x y : Int), l[i]? = some x → l[i + 1]? = some y → x < y
  | [] => ⟨fun _ i x y h => by simp at h, fun _ => rfl⟩
  | [x] => ⟨fun _ i a b h h' => by simp at h', fun _ => rfl⟩
  | x :: y :: r => by
    have ih := risB_iff (l := y :: r)
    rw [risB_cons, Bool.and_eq_true, decide_eq_true_eq, ih]
    constructor
    · rintro ⟨h0, h1⟩ i a b ha hb
      cases i with
      | zero => simp at ha hb; subst ha hb; exact h0
      | succ i => exact h1 i a b (by simpa using ha) (by simpa using hb)
    · intro h
      exact ⟨h 0 x y rfl rfl, fun i a b ha hb => h (i + 1) a b (by simpa using ha) (by simpa using hb)⟩
theorem betB_iff {lo hi : Int} {l : List Int} : betB lo hi l = true ↔ ∀ x ∈ l, lo ≤ x ∧ x ≤ hi := by
  unfold betB
  rw [List.all_eq_true]
  constructor
  · intro h x hx; simpa using h x hx
  · intro h x hx; simpa using h x hx
theorem digsB_iff {l : List Int} {most : Int} : digsB l most = true ↔ (l.length : Int) ≤ most ∧ (∀ x ∈ l, 1 ≤ x ∧ x ≤ 65536) ∧ risB l = true := by
  unfold digsB
  rw [Bool.and_eq_true, Bool.and_eq_true, decide_eq_true_eq, betB_iff]
theorem wide_all {a r : Int} {B P : List Int} (h : wideB a r B P = true) : (1 ≤ a ∧ a ≤ 16) ∧ (1 ≤ r ∧ r ≤ 1099511627776) ∧ ((B.length : Int) ≤ 8 ∧ ∀ x ∈ B, 1 ≤ x ∧ x ≤ 65536) ∧ ((P.length : Int) ≤ 16 ∧ ∀ x ∈ P, 1 ≤ x ∧ x ≤ 65536) := by
  obtain ⟨h1, h2, h3, h4, _⟩ : (1 ≤ a ∧ a ≤ 16) ∧ (1 ≤ r ∧ r ≤ 1099511627776) ∧ digsB B 8 = true ∧ digsB P 16 = true ∧ (1 < r ∨ P.length = 0) := by simpa only [wideB, decide_eq_true_eq] using h
  obtain ⟨b1, b2, _⟩ := digsB_iff.1 h3
  obtain ⟨p1, p2, _⟩ := digsB_iff.1 h4
  exact ⟨h1, h2, ⟨b1, b2⟩, p1, p2⟩

/-! ### numbers as one text -/
def toN (l : List Int) : List Nat := l.map Int.toNat
theorem toN_length (l : List Int) : (toN l).length = l.length := by simp [toN]
theorem nats_toN {l : List Int} (h : ∀ x ∈ l, 0 ≤ x) : nats (toN l) = l := by
  unfold nats toN
  rw [List.map_map]
  conv => rhs; rw [← List.map_id l]
  exact List.map_congr_left fun x hx => by simp only [Function.comp, id]; exact Int.toNat_of_nonneg (h x hx)
theorem toN_nats (l : List Nat) : toN (nats l) = l := by
  unfold nats toN
  rw [List.map_map]
  conv => rhs; rw [← List.map_id l]
  exact List.map_congr_left fun x _ => by simp only [Function.comp, id]; exact Int.toNat_natCast x
theorem toN_small {l : List Int} (h : ∀ x ∈ l, 1 ≤ x ∧ x ≤ 65536) : ∀ m ∈ toN l, m < 9223372036854775808 := fun m hm => by
  obtain ⟨x, hx, rfl⟩ := List.mem_map.1 hm
  have := h x hx
  omega
def numsT (l : List Int) : ByteArray := strOfNums (putNums (toN l))
theorem byt_numsT (l : List Int) : byt (numsT l) = putNums (toN l) := byt_of (putNums_byts _)
theorem numsT_size (l : List Int) : (numsT l).size = (putNums (toN l)).length := by rw [← byt_length, byt_numsT]
theorem putNums_len {l : List Nat} (h : ∀ m ∈ l, m < 9223372036854775808) (hl : l.length < 9223372036854775808) : (putNums l).length ≤ 9 + 9 * l.length := by
  have h1 := vnum_len_le l.length hl
  have h2 : (vnums l).length ≤ 9 * l.length := by
    clear hl h1
    induction l with
    | nil => simp [vnums]
    | cons m l ih =>
      have h3 := vnum_len_le m (h m (by simp))
      have h4 := ih fun x hx => h x (by simp [hx])
      simp only [vnums, List.flatMap_cons, List.length_append, List.length_cons] at h4 ⊢
      omega
  rw [putNums, List.length_append]
  omega
theorem numsT_small {l : List Int} (h : ∀ x ∈ l, 1 ≤ x ∧ x ≤ 65536) (hl : (l.length : Int) ≤ 16) : (numsT l).size ≤ 153 := by
  rw [numsT_size]
  have := putNums_len (toN_small h) (by rw [toN_length]; omega)
  rw [toN_length] at this
  omega

/-! ### a header as texts, and as bytes -/
def headW : ByteArray := ⟨#[104, 101, 97, 100, 101, 114]⟩
def headTexts (a r : Int) (B P : List Int) : List ByteArray := [headW, numT a, numT r, numsT B, numsT P]
def headBytes (a r : Int) (B P : List Int) : List Int := putPuts ((headTexts a r B P).map byt)
/-- numbers that a text is, or none -/
def numsO (s : ByteArray) : Option (List Int) := (getNums (byt s)).map nats
theorem numsO_put {l : List Int} (h : ∀ x ∈ l, 1 ≤ x ∧ x ≤ 65536) (hl : (l.length : Int) ≤ 16) : numsO (numsT l) = some l := by
  unfold numsO
  rw [byt_numsT, getNums_put (toN_small h) (by rw [toN_length]; omega), Option.map_some, nats_toN fun x hx => by have := h x hx; omega]
theorem numsO_get {s : ByteArray} {l : List Int} (h : numsO s = some l) : s = numsT l := by
  unfold numsO at h
  cases hg : getNums (byt s) with
  | none => rw [hg] at h; simp at h
  | some m =>
    rw [hg, Option.map_some, Option.some.injEq] at h
    subst h
    exact byt_inj (by rw [byt_numsT, toN_nats]; exact getNums_get (byt_byts s) hg)

/-- the header that texts are, if it is one that has bytes -/
def textsH : List ByteArray → Option (Int × Int × List Int × List Int)
  | [w, x, y, b, p] =>
    if w = headW ∧ (wholeN x).isSome ∧ (wholeN y).isSome ∧ (numsO b).isSome ∧ (numsO p).isSome ∧ wideB ((wholeN x).getD 0 : Nat) ((wholeN y).getD 0 : Nat) ((numsO b).getD []) ((numsO p).getD []) = true
    then some (((wholeN x).getD 0 : Nat), ((wholeN y).getD 0 : Nat), (numsO b).getD [], (numsO p).getD []) else none
  | _ => none
theorem textsH_five (w x y b p : ByteArray) : textsH [w, x, y, b, p] =
    if w = headW ∧ (wholeN x).isSome ∧ (wholeN y).isSome ∧ (numsO b).isSome ∧ (numsO p).isSome ∧ wideB ((wholeN x).getD 0 : Nat) ((wholeN y).getD 0 : Nat) ((numsO b).getD []) ((numsO p).getD []) = true
    then some ((((wholeN x).getD 0 : Nat) : Int), (((wholeN y).getD 0 : Nat) : Int), (numsO b).getD [], (numsO p).getD []) else none := rfl
def parseH (x : List Int) : Option (Int × Int × List Int × List Int) := (getPuts x).bind fun l => textsH (l.map strOfNums)

section
variable {a r a' r' : Int} {B P B' P' : List Int}
theorem textsH_put (h : wideB a r B P = true) : textsH (headTexts a r B P) = some (a, r, B, P) := by
  obtain ⟨⟨a0, a1⟩, ⟨r0, r1⟩, ⟨b0, b1⟩, p0, p1⟩ := wide_all h
  show textsH [headW, numT a, numT r, numsT B, numsT P] = _
  rw [textsH_five, whole_num (by omega) (by omega), whole_num (by omega) (by omega), numsO_put b1 (by omega), numsO_put p1 p0]
  simp only [Option.getD_some, Option.isSome_some]
  rw [Int.toNat_of_nonneg (by omega), Int.toNat_of_nonneg (by omega), if_pos (by exact ⟨trivial, trivial, trivial, trivial, trivial, h⟩)]
theorem textsH_get {l : List ByteArray} (h : textsH l = some (a, r, B, P)) : wideB a r B P = true ∧ l = headTexts a r B P := by
  match l, h with
  | [w, x, y, b, p], h =>
    rw [textsH_five] at h
    split at h
    · rename_i hc
      obtain ⟨h1, h4, h5, h6, h7, h8⟩ := hc
      simp only [Option.some.injEq, Prod.mk.injEq] at h
      obtain ⟨e1, e2, e3, e4⟩ := h
      rw [Option.isSome_iff_exists] at h4 h5 h6 h7
      obtain ⟨m, hm⟩ := h4
      obtain ⟨m', hm'⟩ := h5
      obtain ⟨lb, hlb⟩ := h6
      obtain ⟨lp, hlp⟩ := h7
      rw [e1, e2, e3, e4] at h8
      rw [hm] at e1
      rw [hm'] at e2
      rw [hlb] at e3
      rw [hlp] at e4
      simp only [Option.getD_some] at e1 e2 e3 e4
      refine ⟨h8, ?_⟩
      rw [headTexts, h1, (num_whole hm).1, (num_whole hm').1, numsO_get hlb, numsO_get hlp, e1, e2, e3, e4]
    · simp at h
theorem headTexts_small (h : wideB a r B P = true) : ∀ s ∈ headTexts a r B P, s.size ≤ 153 := by
  obtain ⟨⟨a0, a1⟩, ⟨r0, r1⟩, ⟨b0, b1⟩, p0, p1⟩ := wide_all h
  have hn : ∀ m : Int, 0 ≤ m → m < 9223372036854775808 → (numT m).size ≤ 153 := fun m h0 h1 => by
    rw [numT_size]
    have := vnum_len_le m.toNat (by omega)
    omega
  intro s hs
  simp only [headTexts, List.mem_cons, List.not_mem_nil, or_false] at hs
  rcases hs with rfl | rfl | rfl | rfl | rfl
  · decide
  · exact hn _ (by omega) (by omega)
  · exact hn _ (by omega) (by omega)
  · exact numsT_small b1 (by omega)
  · exact numsT_small p1 p0
theorem head_sizes (h : wideB a r B P = true) : ∀ s ∈ (headTexts a r B P).map byt, s.length < 9223372036854775808 := fun s hs => by
  obtain ⟨t, ht, rfl⟩ := List.mem_map.1 hs
  rw [byt_length]
  have := headTexts_small h t ht
  omega
theorem headTexts_length (a r : Int) (B P : List Int) : (headTexts a r B P).length = 5 := rfl
theorem vputs_len5 {k : Nat} (L : List ByteArray) (hk : k < 9223372036854775808) (h : ∀ s ∈ L, s.size ≤ k) : (vputs (L.map byt)).length ≤ (9 + k) * L.length := by
  induction L with
  | nil => simp [vputs]
  | cons s L ih =>
    have h0 := h s (by simp)
    have h1 := vnum_len_le s.size (by omega)
    have h2 := ih fun x hx => h x (by simp [hx])
    rw [List.length_cons, Nat.mul_succ]
    simp only [vputs, List.map_cons, List.flatMap_cons, List.length_append, byt_length] at h2 ⊢
    omega
theorem head_small (h : wideB a r B P = true) : (headBytes a r B P).length ≤ 1000 := by
  have h1 := vputs_len5 (k := 153) (headTexts a r B P) (by omega) (headTexts_small h)
  have h2 := headTexts_length a r B P
  rw [h2] at h1
  have h3 := vnum_len_le ((headTexts a r B P).map byt).length (by rw [List.length_map, h2]; omega)
  rw [headBytes, putPuts, List.length_append]
  omega
theorem head_fit (h : wideB a r B P = true) : (putPuts ((headTexts a r B P).map byt)).length ≤ 1048576 := by
  have := head_small h
  rw [headBytes] at this
  omega
theorem headBytes_byts (a r : Int) (B P : List Int) : Byts (headBytes a r B P) := putPuts_byts _ fun s hs => by
  obtain ⟨t, _, rfl⟩ := List.mem_map.1 hs
  exact byt_byts t
theorem parseH_put (h : wideB a r B P = true) : parseH (headBytes a r B P) = some (a, r, B, P) := by
  unfold parseH headBytes
  rw [getPuts_put (head_sizes h) (by rw [List.length_map, headTexts_length]; omega), Option.bind_some, map_strs, textsH_put h]
theorem parseH_get {x : List Int} (hx : Byts x) (h : parseH x = some (a, r, B, P)) : wideB a r B P = true ∧ x = headBytes a r B P := by
  unfold parseH at h
  cases hg : getPuts x with
  | none => rw [hg] at h; simp at h
  | some l =>
    rw [hg, Option.bind_some] at h
    obtain ⟨h1, h2⟩ := textsH_get h
    have h3 := getPuts_get hx hg
    refine ⟨h1, ?_⟩
    rw [headBytes, ← h2, h3]
    congr 1
    have hall : ∀ s ∈ l, Byts s := getPuts_byts hx hg
    rw [List.map_map]
    conv => lhs; rw [← List.map_id l]
    exact List.map_congr_left fun s hs => by simp only [Function.comp, id]; exact (byt_of (hall s hs)).symm
theorem parseH_more (h : wideB a r B P = true) {t : List Int} (ht : t ≠ []) : parseH (headBytes a r B P ++ t) = none := by
  unfold parseH headBytes
  rw [getPuts_more (head_sizes h) (by rw [List.length_map, headTexts_length]; omega) ht]
  rfl
theorem parseH_short (h : wideB a r B P = true) {k : Nat} (hk : k < (headBytes a r B P).length) : parseH ((headBytes a r B P).take k) = none := by
  unfold parseH headBytes at *
  rw [getPuts_short (fun s hs => by obtain ⟨t, _, rfl⟩ := List.mem_map.1 hs; exact byt_byts t) (head_sizes h) (by rw [List.length_map, headTexts_length]; omega) hk]
  rfl
/-- are two headers the same? -/
def eqHdr (a r : Int) (B P : List Int) (a' r' : Int) (B' P' : List Int) : Bool := decide (a = a' ∧ r = r' ∧ B = B' ∧ P = P')
theorem eqHdr_same (a r : Int) (B P : List Int) : eqHdr a r B P a r B P = true := by simp [eqHdr]
theorem head_inj (h : wideB a r B P = true) (h' : wideB a' r' B' P' = true) (e : headBytes a r B P = headBytes a' r' B' P') : a = a' ∧ r = r' ∧ B = B' ∧ P = P' := by
  have := parseH_put h
  rw [e, parseH_put h', Option.some.injEq, Prod.mk.injEq, Prod.mk.injEq, Prod.mk.injEq] at this
  exact ⟨this.1.symm, this.2.1.symm, this.2.2.1.symm, this.2.2.2.symm⟩
theorem eq_heads (h : wideB a r B P = true) (h' : wideB a' r' B' P' = true) : decide (headBytes a r B P = headBytes a' r' B' P') = eqHdr a r B P a' r' B' P' := by
  rw [eqHdr, decide_eq_decide]
  constructor
  · exact fun e => head_inj h h' e
  · rintro ⟨rfl, rfl, rfl, rfl⟩; rfl
end

end Go.Proofs.Ytcfnomnhameleaa
/-
  A slice of what is asked (a number, texts, numbers, bytes) that came in: its cells at each index, and the lists that they show. And what of it is let go.
-/
namespace Go.Proofs.Ytcfnomnhameleaa
open Go.RowKit Go.ChangeShapes Go.WideShapes Go.Deep

/-- what is asked at one index: the parts, as lists -/
structure Asked where
  N : Int
  AL : Option Addr
  cL : Nat
  L : List ByteArray
  AN : Option Addr
  cN : Nat
  S : List Int
  AB : Option Addr
  cB : Nat
  B : List Int

structure AskOk (w : World) (q : Asked) : Prop where
  wN : -9223372036854775808 ≤ q.N ∧ q.N ≤ 9223372036854775807
  hL : q.L.length ≤ q.cL
  mL : q.cL ≤ maxLen
  rL : Rd w q.AL (strs q.L)
  sL : ∀ s ∈ q.L, s.size ≤ 140737488351232
  hN : q.S.length ≤ q.cN
  mN : q.cN ≤ maxLen
  rN : Rd w q.AN (i64s q.S)
  sN : ∀ n ∈ q.S, -9223372036854775808 ≤ n ∧ n ≤ 9223372036854775807
  hB : q.B.length ≤ q.cB
  mB : q.cB ≤ maxLen
  rB : Rd w q.AB (u8s q.B)
  sB : Byts q.B

def AskAt (w : World) (a : Option Addr) (i : Nat) : Prop :=
  ∃ (b off : Nat) (q : Asked), a = some ⟨b, off, none⟩ ∧ b < w.heap.size ∧ AskOk w q ∧
    w.cell? ⟨b, off + i * 4, none⟩ = some (.int .i64 q.N) ∧ w.cell? ⟨b, off + i * 4 + 1, none⟩ = some (.slice q.AL q.L.length q.cL) ∧
    w.cell? ⟨b, off + i * 4 + 2, none⟩ = some (.slice q.AN q.S.length q.cN) ∧ w.cell? ⟨b, off + i * 4 + 3, none⟩ = some (.slice q.AB q.B.length q.cB)

def Asks (w : World) (a : Option Addr) (len cap : Nat) : Prop := len ≤ cap ∧ cap ≤ maxLen ∧ ∀ i, i < len → AskAt w a i

theorem AskOk.below {w w' : World} {q : Asked} (h : AskOk w q) (hb : Below w.heap.size w w') : AskOk w' q :=
  ⟨h.wN, h.hL, h.mL, h.rL.below hb, h.sL, h.hN, h.mN, h.rN.below hb, h.sN, h.hB, h.mB, h.rB.below hb, h.sB⟩
theorem AskAt.below {w w' : World} {a : Option Addr} {i : Nat} (h : AskAt w a i) (hb : Below w.heap.size w w') : AskAt w' a i := by
  obtain ⟨b, off, q, rfl, hlt, ok, c0, c1, c2, c3⟩ := h
  exact ⟨b, off, q, rfl, Nat.lt_of_lt_of_le hlt hb.size, ok.below hb, (hb.cell (p := ⟨b, _, none⟩) hlt).trans c0, (hb.cell (p := ⟨b, _, none⟩) hlt).trans c1, (hb.cell (p := ⟨b, _, none⟩) hlt).trans c2, (hb.cell (p := ⟨b, _, none⟩) hlt).trans c3⟩

end Go.Proofs.Ytcfnomnhameleaa
