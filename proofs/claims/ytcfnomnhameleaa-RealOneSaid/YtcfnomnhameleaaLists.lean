/-
  The walks of package wire on lists.
-/
import Derived.Test.YtcfnomnhameleaaNum
import Derived.Laws.BytesArg
namespace Go.Proofs.Ytcfnomnhameleaa
open Go.RowKit

/-! ### on lists -/
theorem vputs_append (a b : List (List Int)) : vputs (a ++ b) = vputs a ++ vputs b := by simp [vputs]
theorem vnums_append (a b : List Nat) : vnums (a ++ b) = vnums a ++ vnums b := by simp [vnums]
/-- the bytes of the first j -/
def preT (L : List ByteArray) (j : Nat) : List Int := vputs ((L.take j).map byt)
def preN (L : List Nat) (j : Nat) : List Int := vnums (L.take j)
theorem vputs_step {L : List ByteArray} {j : Nat} {s : ByteArray} (h : L[j]? = some s) : preT L (j + 1) = preT L j ++ (vnum s.size ++ byt s) := by
  unfold preT
  rw [take_up h, List.map_append, vputs_append]
  simp [vputs, byt_length]
theorem vputs_le (L : List ByteArray) (j : Nat) : (preT L j).length ≤ (vputs (L.map byt)).length := by
  unfold preT
  have := congrArg (fun l => (vputs (l.map byt)).length) (List.take_append_drop j L)
  simp only [List.map_append, vputs_append, List.length_append] at this
  omega
theorem vnums_step {L : List Nat} {j m : Nat} (h : L[j]? = some m) : preN L (j + 1) = preN L j ++ vnum m := by
  unfold preN
  rw [take_up h, vnums_append]
  simp [vnums]
theorem vnums_le (L : List Nat) (j : Nat) : (preN L j).length ≤ (vnums L).length := by
  unfold preN
  have := congrArg (fun l => (vnums l).length) (List.take_append_drop j L)
  simp only [vnums_append, List.length_append] at this
  omega
theorem preT_zero (L : List ByteArray) : preT L 0 = [] := by simp [preT, vputs]
theorem preN_zero (L : List Nat) : preN L 0 = [] := by simp [preN, vnums]
theorem preT_all {L : List ByteArray} {n : Nat} (h : L.length = n) : preT L n = vputs (L.map byt) := by rw [preT, List.take_of_length_le (by omega)]
theorem preN_all {L : List Nat} {n : Nat} (h : L.length = n) : preN L n = vnums L := by rw [preN, List.take_of_length_le (by omega)]
theorem putPuts_byt (L : List ByteArray) : putPuts (L.map byt) = vnum L.length ++ vputs (L.map byt) := by simp [putPuts]
/-- whole numbers that are not below 0, as cells -/
def nats (l : List Nat) : List Int := l.map fun m : Nat => (m : Int)
theorem nats_at {l : List Nat} {i : Nat} (h : i < l.length) : (nats l)[i]?.getD 0 = ((l[i]?.getD 0 : Nat) : Int) := by simp [nats, h]
theorem nats_length (l : List Nat) : (nats l).length = l.length := by simp [nats]
theorem getD_some {α : Type} {l : List α} {i : Nat} {d : α} (h : i < l.length) : l[i]? = some (l[i]?.getD d) := by simp [h]
theorem getD_mem {α : Type} {l : List α} {i : Nat} {d : α} (h : i < l.length) : l[i]?.getD d ∈ l := by simp [h]

/-! ### Put -/
set_option maxRecDepth 100000 in
set_option maxHeartbeats 1000000 in
theorem put_yes (A : Option Addr) (c n : Nat) (L : List ByteArray) (w : World) (hz : L.length = n) (hr : Rd w A (strs L)) (hn : n ≤ 1048576) (hfit : (putPuts (L.map byt)).length ≤ 1048576) :
    Calls Try.prog 91 #[.slice A n c] w (Made2 w.heap.size 5 w (u8s (putPuts (L.map byt))) (.int .i64 0)) := by
  rw [putPuts_byt, hz] at hfit ⊢
  simp only [List.length_append] at hfit
  have HZ := Lib.hid hz
  clear hz
  have hlen := vnum_len_le n (by omega)
  go_enter Try.func91, Try.ntmps91
  go_wp2_with fail
  refine (numSize_any n (by omega) _).mono ?_
  rintro e w' ⟨rfl, rfl⟩
  go_wp2_with fail
  go_loop [4, 15] (fun x i => ∃ j S : Nat, i = .int .i64 j ∧ x = .int .i64 S ∧ j ≤ n ∧ S = (vnum n).length + (preT L j).length) (fun _ i => n - (intOf i).toNat)
  case atStart => exact ⟨0, (vnum n).length, rfl, rfl, by omega, by rw [preT_zero]; rfl⟩
  case round =>
    obtain ⟨j, S, rfl, rfl, hj, hS⟩ := hrel
    by_cases hlt : j < n
    · obtain ⟨b, off, rfl, hbl, hcell⟩ := hr.open_ (by rw [strs_length, HZ.out]; omega)
      have hc1 := hcell j _ (strs_at (by rw [HZ.out]; exact hlt))
      obtain ⟨s, hs⟩ : ∃ s, s = L[j]?.getD ByteArray.empty := ⟨_, rfl⟩
      rw [← hs] at hc1
      have hsome : L[j]? = some s := by rw [hs]; exact getD_some (by rw [HZ.out]; exact hlt)
      have hst := congrArg List.length (vputs_step hsome)
      have hle := vputs_le L (j + 1)
      simp only [List.length_append, byt_length] at hst
      have hfit2 : S + ((vnum s.size).length + s.size) ≤ 1048576 := by omega
      have hS2 : S + ((vnum s.size).length + s.size) = (vnum n).length + (preT L (j + 1)).length := by omega
      have hs63 : s.size < 9223372036854775808 := by omega
      have HS := Lib.hid hS2
      clear hcell hst hle hS hS2 hs hsome
      go_wp2_with fail
      refine (numSize_any s.size hs63 _).mono ?_
      rintro e w' ⟨rfl, rfl⟩
      go_wp2_with fail
      go_round
      case rel => exact ⟨j + 1, _, by go_num, rfl, by omega, HS.out⟩
      case measure => simp [intOf]; omega
    · obtain rfl : j = n := by omega
      rw [preT_all HZ.out] at hS
      have hS1 : S ≤ 1048576 := by omega
      clear hS
      go_wp2_with (at_make; refine wpList_make_room _ rfl _ _ 60 rfl w.heap.size 5 (.int .u8 0) 1 Try.underlying60 info_u8 (by decide) S rfl rfl (by omega) (Nat.le_refl _) ?_)
      intro v w1 hown hb
      go_wp2_with fail
      refine (appendNum_any w.heap.size v 0 [] j w1 hown (by omega) (by omega) (by have := hb.size; omega)).mono ?_
      rintro e w2 ⟨v2, rfl, hown2, hb2⟩
      have hb3 := hb.trans hb2
      clear hown hb hb2
      go_wp2_with fail
      go_loopw [7, 37] (fun v i wr => ∃ k : Nat, i = .int .i64 k ∧ k ≤ j ∧ wr.ownsRow w.heap.size 5 1 v (u8s (vnum j ++ preT L k)).length (u8s (vnum j ++ preT L k)) ∧ Below w.heap.size w wr) (fun _ i _ => j - (intOf i).toNat)
      case atStart => exact ⟨0, rfl, by omega, by rw [preT_zero, List.append_nil]; exact hown2, hb3⟩
      case round =>
        obtain ⟨k, rfl, hk, ho, hbr⟩ := hrel
        clear hown2 hb3
        by_cases hkt : k < j
        · obtain ⟨b, off, rfl, hbl, hcell⟩ := (hr.below hbr).open_ (by rw [strs_length, HZ.out]; omega)
          have hc1 := hcell k _ (strs_at (by rw [HZ.out]; exact hkt))
          obtain ⟨s, hs⟩ : ∃ s, s = L[k]?.getD ByteArray.empty := ⟨_, rfl⟩
          rw [← hs] at hc1
          have hsome : L[k]? = some s := by rw [hs]; exact getD_some (by rw [HZ.out]; exact hkt)
          have hst := vputs_step hsome
          have hst1 := congrArg List.length hst
          have hle := vputs_le L (k + 1)
          simp only [List.length_append, byt_length] at hst1
          have hfit2 : (u8s (vnum j ++ preT L k)).length + ((vnum s.size).length + s.size) ≤ 1048576 := by rw [u8s_length, List.length_append]; omega
          have hs63 : s.size < 9223372036854775808 := by omega
          have HS := Lib.hid hst
          clear hcell hst hst1 hle hs hsome
          go_wp2_with fail
          refine (appendNum_any w.heap.size _ _ _ s.size wr ho (by omega) hs63 hbr.size).mono ?_
          rintro e w3 ⟨v3, rfl, ho3, hb3⟩
          have hl3 : (u8s (vnum j ++ preT L k) ++ u8s (vnum s.size)).length + s.size ≤ 1048576 := by rw [List.length_append, u8s_length (vnum s.size)]; omega
          go_wp2_with (refine wpList_app_text _ rfl _ _ 60 9 rfl w.heap.size 5 Try.underlying60 Try.underlying9 info_u8 v3 _ _ rfl ho3 s rfl (by omega) (by have := hbr.size; have := hb3.size; omega) ?_)
          intro v4 w4 ho4 hb4
          have ho5 : w4.ownsRow w.heap.size 5 1 v4 (u8s (vnum j ++ preT L (k + 1))).length (u8s (vnum j ++ preT L (k + 1))) := by
            have e : u8s (vnum j ++ preT L (k + 1)) = u8s (vnum j ++ preT L k) ++ u8s (vnum s.size) ++ Lib.strCells s := by
              rw [HS.out, ← byt_cells]; simp only [u8s_append, List.append_assoc]
            refine own_conv ho4 (by rw [e]; simp only [List.append_assoc]) ?_
            rw [e]; simp only [List.length_append, Lib.strCells_length]
          have hb5 := (hbr.trans hb3).trans hb4
          clear ho4 ho3 ho hb3 hb4
          go_wp2_with fail
          go_roundw
          case rel => exact ⟨k + 1, by go_num, by omega, ho5, hb5⟩
          case measure => simp [intOf]; omega
        · obtain rfl : k = j := by omega
          rw [preT_all HZ.out] at ho
          go_wp2_with fail
          go_ret2
          exact ⟨_, rfl, ho, hbr⟩

/-! ### Nums -/
set_option maxRecDepth 100000 in
set_option maxHeartbeats 1000000 in
theorem nums_yes (A : Option Addr) (c n : Nat) (L : List Nat) (w : World) (hz : L.length = n) (hr : Rd w A (i64s (nats L))) (hn : n ≤ 1048576) (h63 : ∀ m ∈ L, m < 9223372036854775808) (hfit : (putNums L).length ≤ 1048576) :
    Calls Try.prog 96 #[.slice A n c] w (Made2 w.heap.size 5 w (u8s (putNums L)) (.int .i64 0)) := by
  rw [putNums, hz] at hfit ⊢
  simp only [List.length_append] at hfit
  have HZ := Lib.hid hz
  have H63 := Lib.hid h63
  clear hz h63
  have hlen := vnum_len_le n (by omega)
  go_enter Try.func96, Try.ntmps96
  go_wp2_with fail
  refine (numSize_any n (by omega) _).mono ?_
  rintro e w' ⟨rfl, rfl⟩
  go_wp2_with fail
  go_loop [4, 15] (fun x i => ∃ j S : Nat, i = .int .i64 j ∧ x = .int .i64 S ∧ j ≤ n ∧ S = (vnum n).length + (preN L j).length) (fun _ i => n - (intOf i).toNat)
  case atStart => exact ⟨0, (vnum n).length, rfl, rfl, by omega, by rw [preN_zero]; rfl⟩
  case round =>
    obtain ⟨j, S, rfl, rfl, hj, hS⟩ := hrel
    by_cases hlt : j < n
    · obtain ⟨b, off, rfl, hbl, hcell⟩ := hr.open_ (by rw [i64s_length, nats_length, HZ.out]; omega)
      have hc1 := hcell j _ (i64s_at (by rw [nats_length, HZ.out]; exact hlt))
      rw [nats_at (by rw [HZ.out]; exact hlt)] at hc1
      obtain ⟨m, hs⟩ : ∃ m, m = L[j]?.getD 0 := ⟨_, rfl⟩
      rw [← hs] at hc1
      have hsome : L[j]? = some m := by rw [hs]; exact getD_some (by rw [HZ.out]; exact hlt)
      have hm63 : m < 9223372036854775808 := by rw [hs]; exact H63.out _ (getD_mem (by rw [HZ.out]; exact hlt))
      have hst := congrArg List.length (vnums_step hsome)
      have hle := vnums_le L (j + 1)
      simp only [List.length_append] at hst
      have hfit2 : S + (vnum m).length ≤ 1048576 := by omega
      have hS2 : S + (vnum m).length = (vnum n).length + (preN L (j + 1)).length := by omega
      have HS := Lib.hid hS2
      clear hcell hst hle hS hS2 hs hsome
      go_wp2_with fail
      refine (numSize_any m hm63 _).mono ?_
      rintro e w' ⟨rfl, rfl⟩
      go_wp2_with fail
      go_round
      case rel => exact ⟨j + 1, _, by go_num, rfl, by omega, HS.out⟩
      case measure => simp [intOf]; omega
    · obtain rfl : j = n := by omega
      rw [preN_all HZ.out] at hS
      have hS1 : S ≤ 1048576 := by omega
      clear hS
      go_wp2_with (at_make; refine wpList_make_room _ rfl _ _ 60 rfl w.heap.size 5 (.int .u8 0) 1 Try.underlying60 info_u8 (by decide) S rfl rfl (by omega) (Nat.le_refl _) ?_)
      intro v w1 hown hb
      go_wp2_with fail
      refine (appendNum_any w.heap.size v 0 [] j w1 hown (by omega) (by omega) (by have := hb.size; omega)).mono ?_
      rintro e w2 ⟨v2, rfl, hown2, hb2⟩
      have hb3 := hb.trans hb2
      clear hown hb hb2
      go_wp2_with fail
      go_loopw [7, 35] (fun v i wr => ∃ k : Nat, i = .int .i64 k ∧ k ≤ j ∧ wr.ownsRow w.heap.size 5 1 v (u8s (vnum j ++ preN L k)).length (u8s (vnum j ++ preN L k)) ∧ Below w.heap.size w wr) (fun _ i _ => j - (intOf i).toNat)
      case atStart => exact ⟨0, rfl, by omega, by rw [preN_zero, List.append_nil]; exact hown2, hb3⟩
      case round =>
        obtain ⟨k, rfl, hk, ho, hbr⟩ := hrel
        clear hown2 hb3
        by_cases hkt : k < j
        · obtain ⟨b, off, rfl, hbl, hcell⟩ := (hr.below hbr).open_ (by rw [i64s_length, nats_length, HZ.out]; omega)
          have hc1 := hcell k _ (i64s_at (by rw [nats_length, HZ.out]; exact hkt))
          rw [nats_at (by rw [HZ.out]; exact hkt)] at hc1
          obtain ⟨m, hs⟩ : ∃ m, m = L[k]?.getD 0 := ⟨_, rfl⟩
          rw [← hs] at hc1
          have hsome : L[k]? = some m := by rw [hs]; exact getD_some (by rw [HZ.out]; exact hkt)
          have hm63 : m < 9223372036854775808 := by rw [hs]; exact H63.out _ (getD_mem (by rw [HZ.out]; exact hkt))
          have hst := vnums_step hsome
          have hst1 := congrArg List.length hst
          have hle := vnums_le L (k + 1)
          simp only [List.length_append] at hst1
          have hfit2 : (u8s (vnum j ++ preN L k)).length + (vnum m).length ≤ 1048576 := by rw [u8s_length, List.length_append]; omega
          have HS := Lib.hid hst
          clear hcell hst hst1 hle hs hsome
          go_wp2_with fail
          refine (appendNum_any w.heap.size _ _ _ m wr ho (by omega) hm63 hbr.size).mono ?_
          rintro e w3 ⟨v3, rfl, ho3, hb3⟩
          have ho5 : w3.ownsRow w.heap.size 5 1 v3 (u8s (vnum j ++ preN L (k + 1))).length (u8s (vnum j ++ preN L (k + 1))) := by
            have e : u8s (vnum j ++ preN L (k + 1)) = u8s (vnum j ++ preN L k) ++ u8s (vnum m) := by
              rw [HS.out]; simp only [u8s_append, List.append_assoc]
            rw [e]; exact ho3
          have hb5 := hbr.trans hb3
          clear ho3 ho hb3
          go_wp2_with fail
          go_roundw
          case rel => exact ⟨k + 1, by go_num, by omega, ho5, hb5⟩
          case measure => simp [intOf]; omega
        · obtain rfl : k = j := by omega
          rw [preN_all HZ.out] at ho
          go_wp2_with fail
          go_ret2
          exact ⟨_, rfl, ho, hbr⟩

/-- the first one that is below 0 -/
def Neg (l : List Int) (q : Nat) : Prop := q < l.length ∧ l[q]?.getD 0 < 0 ∧ ∀ i, i < q → 0 ≤ l[i]?.getD 0
theorem nats_or_neg (l : List Int) : (∃ L : List Nat, l = nats L) ∨ ∃ q, Neg l q := by
  induction l with
  | nil => exact .inl ⟨[], rfl⟩
  | cons x l ih =>
    by_cases hx : x < 0
    · exact .inr ⟨0, by simp, by simpa using hx, fun i hi => absurd hi (by omega)⟩
    · rcases ih with ⟨L, rfl⟩ | ⟨q, h1, h2, h3⟩
      · refine .inl ⟨x.toNat :: L, ?_⟩
        simp only [nats, List.map_cons, List.cons.injEq, and_true]
        omega
      · refine .inr ⟨q + 1, by simp; exact h1, by simpa using h2, fun i hi => ?_⟩
        cases i with
        | zero => simp; omega
        | succ i => simpa using h3 i (by omega)

set_option maxRecDepth 100000 in
set_option maxHeartbeats 1000000 in
theorem nums_no (A : Option Addr) (c n q : Nat) (l : List Int) (w : World) (hz : l.length = n) (hr : Rd w A (i64s l)) (hn : n ≤ 1048576) (hw : ∀ m ∈ l, m ≤ 9223372036854775807) (hq : Neg l q) :
    Calls Try.prog 96 #[.slice A n c] w fun e w' => e = .returned (.tuple #[.slice none 0 0, .int .i64 1]) ∧ w = w' := by
  obtain ⟨q1, q2, q3⟩ := hq
  rw [hz] at q1
  have HZ := Lib.hid hz
  have HW := Lib.hid hw
  have H3 := Lib.hid q3
  clear hz hw q3
  have hlen := vnum_len_le n (by omega)
  go_enter Try.func96, Try.ntmps96
  go_wp2_with fail
  refine (numSize_any n (by omega) _).mono ?_
  rintro e w' ⟨rfl, rfl⟩
  go_wp2_with fail
  go_loop [4, 15] (fun x i => ∃ j S : Nat, i = .int .i64 j ∧ x = .int .i64 S ∧ j ≤ q ∧ S ≤ 9 + 9 * j) (fun _ i => n - (intOf i).toNat)
  case atStart => exact ⟨0, (vnum n).length, rfl, rfl, by omega, by omega⟩
  case round =>
    obtain ⟨j, S, rfl, rfl, hj, hS⟩ := hrel
    have hlt : j < n := by omega
    obtain ⟨b, off, rfl, hbl, hcell⟩ := hr.open_ (by rw [i64s_length, HZ.out]; omega)
    have hc1 := hcell j _ (i64s_at (by rw [HZ.out]; exact hlt))
    have hle := HW.out _ (getD_mem (d := 0) (i := j) (by rw [HZ.out]; exact hlt))
    clear hcell
    by_cases hjq : j < q
    · have h0 := H3.out j hjq
      obtain ⟨m, hm⟩ : ∃ m : Nat, l[j]?.getD 0 = (m : Int) := ⟨(l[j]?.getD 0).toNat, by omega⟩
      rw [hm] at hc1 hle
      have hml := vnum_len_le m (by omega)
      clear hm h0
      go_wp2_with fail
      refine (numSize_any m (by omega) _).mono ?_
      rintro e w' ⟨rfl, rfl⟩
      go_wp2_with fail
      go_round
      case rel => exact ⟨j + 1, S + (vnum m).length, by go_num, by go_num, by omega, by omega⟩
      case measure => simp [intOf]; omega
    · obtain rfl : j = q := by omega
      go_wp2_with fail
      go_ret2
      exact ⟨rfl, rfl⟩

end Go.Proofs.Ytcfnomnhameleaa
