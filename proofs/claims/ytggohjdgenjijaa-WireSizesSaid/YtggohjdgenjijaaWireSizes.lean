/-
  'WireSizes': for every input the law returns true, and its argument reads as it did. 
-/
import Derived.Test.YtggohjdgenjijaaLawKit
namespace Go.Proofs.Ytggohjdgenjijaa
open Go.RowKit Go.ChangeShapes Go.WideShapes Go.ChangeAt

theorem pow_size {k : Nat} (_hk : k < 63) : (vnum (2 ^ k)).length = k / 7 + 1 := by
  refine vnum_len (by omega) ?_ ?_
  · rw [pow_seven]; exact Nat.pow_lt_pow_right (by decide) (by omega)
  · rcases Nat.eq_zero_or_pos (k / 7) with h | h
    · left; omega
    · right
      rw [Nat.add_sub_cancel, pow_seven]
      exact Nat.pow_le_pow_right (by decide) (by omega)
theorem pred_size {k : Nat} (_hk : k < 63) : (vnum (2 ^ k - 1)).length = max 1 ((k + 6) / 7) := by
  have hp : 0 < 2 ^ k := Nat.pow_pos (by decide)
  have h1 : 2 ^ k ≤ 128 ^ (max 1 ((k + 6) / 7)) := by
    rw [pow_seven]; exact Nat.pow_le_pow_right (by decide) (by omega)
  refine vnum_len (by omega) (by omega) ?_
  rcases Nat.lt_or_ge k 8 with h | h
  · left; omega
  · right
    have h2 : 128 ^ (max 1 ((k + 6) / 7) - 1) ≤ 2 ^ (k - 1) := by
      rw [pow_seven]; exact Nat.pow_le_pow_right (by decide) (by omega)
    have h3 : 2 ^ k = 2 * 2 ^ (k - 1) := by rw [← Nat.pow_succ']; congr 1; omega
    have h4 : 0 < 2 ^ (k - 1) := Nat.pow_pos (by decide)
    omega
theorem num_int (x : Int) (n : Nat) (hx : x = (n : Int)) (w : World) (hn : n < 9223372036854775808) :
    Calls Try.prog 10 #[.int .i64 x] w (Made2 w.heap.size 5 w (u8s (vnum n)) (.int .i64 0)) := by
  subst hx; exact num_yes n w hn
theorem no_texts : putPuts (([] : List ByteArray).map byt) = [0] := by simp [putPuts, vputs, vnum_lt]
theorem no_nums : putNums [] = [0] := by simp [putNums, vnums, vnum_lt]
theorem gn_long : gn 0 0 [255, 255, 255, 255, 255, 255, 255, 255, 255, 1] = none := by decide
theorem gn_two : gn 0 0 [128, 0] = none := by decide

set_option maxRecDepth 100000 in
set_option maxHeartbeats 4000000 in
theorem wireSizes_walk (a : Option Addr) (len cap : Nat) (w : World) (ha : Asks w a len cap) :
    Calls Try.prog 8 #[.slice a len cap] w fun e w' => e = .returned (.bool true) ∧ Below w.heap.size w w' := by
  obtain ⟨hl, hm, _⟩ := ha
  unfold maxLen at hm
  go_enter Try.func8, Try.ntmps8
  go_wp2_with fail
  go_loopw [3] (fun i wr => ∃ k : Nat, i = .int .i64 k ∧ k ≤ 63 ∧ Below w.heap.size w wr) (fun i _ => 63 - (intOf i).toNat)
  case atStart => exact ⟨0, rfl, by omega, Below.refl _ _⟩
  case round =>
    obtain ⟨k, rfl, hk, hb⟩ := hrel
    by_cases h63 : k < 63
    · have i1 : (k : Int) < 63 := by omega
      have hle : 2 ^ k ≤ 2 ^ 62 := Nat.pow_le_pow_right (by decide) (by omega)
      have hge : 0 < 2 ^ k := Nat.pow_pos (by decide)
      have hs1 := pow_size h63
      have hs2 := pred_size h63
      have hcast : (2 : Int) ^ k = ((2 ^ k : Nat) : Int) := by simp
      obtain ⟨P, hP⟩ : ∃ P : Nat, P = 2 ^ k := ⟨_, rfl⟩
      rw [← hP] at hle hge hs1 hs2 hcast
      have e0 : wrap64 ((2 : Int) ^ k) = (P : Int) := by rw [hcast]; unfold wrap64; omega
      obtain ⟨La, hLa⟩ : ∃ La, La = (vnum (P - 1)).length := ⟨_, rfl⟩
      obtain ⟨Lb, hLb⟩ : ∃ Lb, Lb = (vnum P).length := ⟨_, rfl⟩
      rw [← hLb] at hs1
      rw [← hLa] at hs2
      have j1 : ((La : Int) != max 1 (((k : Int) + 6) / 7)) = false := by simp; omega
      have j2 : ((Lb : Int) != (k : Int) / 7 + 1) = false := by simp; omega
      have j3 : (1 : Int) ≤ (P : Int) := by omega
      have j4 : (P : Int) ≤ 4611686018427387904 := by omega
      have hP63 : P < 9223372036854775808 := by omega
      have hLb9 := vnum_len_le P hP63
      rw [← hLb] at hLb9
      have HLa := Lib.hid hLa
      have HLb := Lib.hid hLb
      clear hP hcast hs1 hs2 hle hge hLa hLb
      go_wp2_with fail
      refine (num_int _ (P - 1) (by omega) _ (by omega)).mono ?_
      rintro e w1 ⟨v1, rfl, ho1, hb1⟩
      have hb2 := hb.trans (hb1.mono hb.size)
      have ho1b := own_cast ho1 ((u8s_length _).trans HLa.out.symm)
      obtain ⟨A1, d1, rfl, _, _, _, _, hl1⟩ := own_val ho1b
      clear hl1 ho1 ho1b hb1 hb
      go_wp2_with fail
      refine (num_int _ P (by omega) _ hP63).mono ?_
      rintro e w2 ⟨v2, rfl, ho2, hb3⟩
      have hb4 := hb2.trans (hb3.mono hb2.size)
      have ho2b := own_cast ho2 ((u8s_length _).trans HLb.out.symm)
      obtain ⟨A2, d2, rfl, _, _, hr2, _, hl2⟩ := own_val ho2b
      clear hl2 ho2 ho2b hb3 hb2
      have HGN : Hid (gn 0 0 (vnum P) = some (P, Lb)) := by
        have := get_put hP63 []
        rw [List.append_nil] at this
        show gn 0 0 (vnum P) = some (P, Lb)
        rw [this, ← HLb.out]
      go_wp2_with fail
      refine (getNum_any A2 d2 Lb (vnum P) _ HLb.out.symm hr2 (vnum_byts P) (by omega)).mono ?_
      rintro e w' ⟨rfl, rfl⟩
      rw [HGN.out]
      unfold gnVal
      go_wp2_with fail
      refine (num_any _ _).mono ?_
      rintro e w' ⟨rfl, rfl⟩
      go_wp2_with fail
      refine (num_any _ _).mono ?_
      rintro e w' ⟨rfl, rfl⟩
      go_wp2_with fail
      refine (num_any _ _).mono ?_
      rintro e w' ⟨rfl, rfl⟩
      go_wp2_with fail
      go_roundw
      case rel => exact ⟨k + 1, by go_num, by omega, hb4⟩
      case measure => simp [intOf]; omega
    · have i1 : ¬ ((k : Int) < 63) := by omega
      have HN1 := Lib.hid no_texts
      have HN2 := Lib.hid no_nums
      have HG1 := Lib.hid gn_long
      have HG2 := Lib.hid gn_two
      go_wp2_with fail
      refine (put_yes none 0 0 [] _ rfl (Rd.nil _ _) (by omega) (by rw [HN1.out]; decide)).mono ?_
      rintro e w1 ⟨v1, rfl, ho1, hb1⟩
      rw [HN1.out] at ho1
      have hb2 := hb.trans (hb1.mono hb.size)
      obtain ⟨A1, d1, rfl, hd1, _, hr1, _, hl1⟩ := own_val (own_cast (n' := 1) ho1 rfl)
      clear hl1 ho1 hb1 hb
      go_wp2_with fail
      refine (nums_yes none 0 0 [] _ rfl (Rd.nil _ _) (by omega) (fun m hm => by simp at hm) (by rw [HN2.out]; decide)).mono ?_
      rintro e w2 ⟨v2, rfl, ho2, hb3⟩
      rw [HN2.out] at ho2
      have hb4 := hb2.trans (hb3.mono hb2.size)
      have hr1b := hr1.below hb3
      obtain ⟨A2, d2, rfl, hd2, _, hr2, _, hl2⟩ := own_val (own_cast (n' := 1) ho2 rfl)
      clear hl2 ho2 hb3 hb2 hr1
      have hq1 : Rd (w2.alloc (.cells #[.int .u8 255, .int .u8 255, .int .u8 255, .int .u8 255, .int .u8 255, .int .u8 255, .int .u8 255, .int .u8 255, .int .u8 255, .int .u8 1] 5)) (some ⟨w2.heap.size, 0, none⟩) (u8s [255, 255, 255, 255, 255, 255, 255, 255, 255, 1]) := rd_new w2 [.int .u8 255, .int .u8 255, .int .u8 255, .int .u8 255, .int .u8 255, .int .u8 255, .int .u8 255, .int .u8 255, .int .u8 255, .int .u8 1] _
      go_wp2_with fail
      refine (getNum_any _ _ 10 [255, 255, 255, 255, 255, 255, 255, 255, 255, 1] _ rfl hq1 (by intro x hx; simp at hx; unfold Byt; omega) (by omega)).mono ?_
      rintro e w' ⟨rfl, rfl⟩
      rw [HG1.out]
      unfold gnVal
      obtain ⟨w3, hw3⟩ : ∃ w3, w3 = w2.alloc (.cells #[.int .u8 255, .int .u8 255, .int .u8 255, .int .u8 255, .int .u8 255, .int .u8 255, .int .u8 255, .int .u8 255, .int .u8 255, .int .u8 1] 5) := ⟨_, rfl⟩
      have hb5 : Below w.heap.size w w3 := by rw [hw3]; exact hb4.alloc hb4.size _
      have hr1c : Rd w3 A1 (u8s [0]) := by rw [hw3]; exact hr1b.alloc _
      have hr2c : Rd w3 A2 (u8s [0]) := by rw [hw3]; exact hr2.alloc _
      rw [← hw3]
      clear hw3 hb4 hr1b hr2 hq1
      have hq2 : Rd (w3.alloc (.cells #[.int .u8 128, .int .u8 0] 5)) (some ⟨w3.heap.size, 0, none⟩) (u8s [128, 0]) := rd_new w3 [.int .u8 128, .int .u8 0] _
      go_wp2_with fail
      refine (getNum_any _ _ 2 [128, 0] _ rfl hq2 (by intro x hx; simp at hx; unfold Byt; omega) (by omega)).mono ?_
      rintro e w' ⟨rfl, rfl⟩
      rw [HG2.out]
      unfold gnVal
      obtain ⟨w4, hw4⟩ : ∃ w4, w4 = w3.alloc (.cells #[.int .u8 128, .int .u8 0] 5) := ⟨_, rfl⟩
      have hb6 : Below w.heap.size w w4 := by rw [hw4]; exact hb5.alloc hb5.size _
      have hr1d : Rd w4 A1 (u8s [0]) := by rw [hw4]; exact hr1c.alloc _
      have hr2d : Rd w4 A2 (u8s [0]) := by rw [hw4]; exact hr2c.alloc _
      rw [← hw4]
      clear hw4 hb5 hr1c hr2c hq2
      go_wp2_with fail
      refine (getNum_any none 0 0 [] _ rfl (Rd.nil _ _) Byts.nil (by omega)).mono ?_
      rintro e w' ⟨rfl, rfl⟩
      rw [gn_nil]
      unfold gnVal
      go_wp2_with fail
      refine (num_any _ _).mono ?_
      rintro e w' ⟨rfl, rfl⟩
      have hq3 : Rd (w4.alloc (.cells #[.int .u8 0] 5)) (some ⟨w4.heap.size, 0, none⟩) (u8s [0]) := rd_new w4 [.int .u8 0] _
      go_wp2_with fail
      refine (eqBytes_same A1 _ d1 _ 1 [0] _ rfl (hr1d.alloc _) hq3 (by omega)).mono ?_
      rintro e w' ⟨rfl, dx, rfl⟩
      obtain ⟨w5, hw5⟩ : ∃ w5, w5 = (w4.alloc (.cells #[.int .u8 0] 5)).drewN dx := ⟨_, rfl⟩
      have hb7 : Below w.heap.size w w5 := by rw [hw5]; exact below_n (hb6.alloc hb6.size _) dx
      have hr2e : Rd w5 A2 (u8s [0]) := by rw [hw5]; exact hr2d.alloc _
      rw [← hw5]
      clear hw5 hb6 hr1d hr2d hq3
      go_wp2_with fail
      refine (num_any _ _).mono ?_
      rintro e w' ⟨rfl, rfl⟩
      have hq4 : Rd (w5.alloc (.cells #[.int .u8 0] 5)) (some ⟨w5.heap.size, 0, none⟩) (u8s [0]) := rd_new w5 [.int .u8 0] _
      go_wp2_with fail
      refine (eqBytes_same A2 _ d2 _ 1 [0] _ rfl (hr2e.alloc _) hq4 (by omega)).mono ?_
      rintro e w' ⟨rfl, dy, rfl⟩
      have hb8 : Below w.heap.size w ((w5.alloc (.cells #[.int .u8 0] 5)).drewN dy) := below_n (hb7.alloc hb7.size _) dy
      go_wp2_with fail
      refine (num_any _ _).mono ?_
      rintro e w' ⟨rfl, rfl⟩
      go_wp2_with fail
      refine (num_any _ _).mono ?_
      rintro e w' ⟨rfl, rfl⟩
      go_wp2_with fail
      refine (num_any _ _).mono ?_
      rintro e w' ⟨rfl, rfl⟩
      go_wp2_with fail
      refine (wakes_any _).mono ?_
      rintro e w' ⟨rfl, hbw⟩
      go_wp2_with fail
      go_ret
      exact ⟨rfl, hb8.trans (hbw.mono hb8.size)⟩

set_option maxRecDepth 100000 in
theorem wireSizes_lifted (os : Os) (started : os.Started) (H : Type) (enc : TypeId × Value → H) :
    ReturnsInHanded {} Try.checked os 8 .any (Rows.wireSizesSpec.pre6 enc Try.prog Try.f8 Rows.wireSizesRow.domain false) (Rows.wireSizesSpec.post enc Try.prog Try.f8 false true false false) := by
  refine returnsInHanded_of_change_sized (C := Try.checked) (by kernel_rfl) started (by kernel_rfl) Try.func8
    (ChangeSpec.witness6 (enc := enc) (C := Try.checked) false ⟨#[], #[.slice none 0 0], []⟩ 8 (by kernel_rfl) (by kernel_rfl) (by kernel_rfl) (by kernel_rfl)) ?_
  intro W base args ds gs before hval0 hW hcnd hsz0 _
  have hval : ∀ (j : Nat) t v, Try.f8.params[j]? = some t → args[j]? = some v → Value.okWide Try.prog W .any base t v := hval0
  have hsz : (DataW.weightsEach Try.prog (Try.f8.params.toList ++ Rows.wireSizesSpec.plain.varTypes Try.prog) (ds ++ gs)).all (· ≤ reachBytes) = true := hsz0
  have hW' := hW
  obtain ⟨p, q, hA0, hV, rfl, hfz, hnd⟩ := hW
  have hA : DataW.TrodAll enc Try.prog W 0 (fun _ => true) true Try.f8.params.toList args.toList ds p := hA0
  rw [Try.params8] at hA hval hsz
  obtain ⟨v0, d0, rfl, rfl, h0⟩ := trodAll_one hA
  obtain ⟨rfl, rfl⟩ := trodVars_none hV
  obtain ⟨a0, len, cap, rfl⟩ := okWide_slice Try.underlying22 (hval 0 22 v0 rfl rfl)
  have k0 := h0
  have lt0 : ∀ x ∈ p, x.block < W.heap.size := by obtain ⟨m, hm⟩ := k0; exact DataW.trod_lt m _ _ _ hm
  obtain ⟨fuel, hf⟩ := h0
  have hwt : ∀ n ∈ d0.weights Try.prog 22, n ≤ reachBytes := fun n hn => by
    have h1 := List.all_eq_true.1 hsz n (DataW.weights_mem_each (j := 0) (t := 22) (d := d0) rfl rfl n hn)
    simpa using h1
  clear hA0 hval0 hsz0 hsz
  refine (wireSizes_walk a0 len cap W (open_asks hf hwt)).mono fun e W' ⟨he, bel⟩ => ?_
  subst he
  exact ⟨_, rfl, _, _, _, [], _, [], hW', trodAll_mk1 (shut_bool Try.underlying4 _), trodAll_mk1 (Below.trod (by kernel_rfl) (by kernel_rfl) (of_decide_eq_true (by kernel_rfl)) k0 bel lt0), rfl, bel.frame _, fun h => by cases h⟩

theorem wireSizes_holds : Rows.WireSizesSaid :=
  OpenClaim.holds_of_wide 8 Try.f8 rfl rfl rfl rfl rfl rfl rfl ⟨rfl, rfl, rfl, rfl, rfl⟩ rfl rfl rfl rfl rfl (by kernel_rfl) Try.func8 (by kernel_rfl)
    (of_decide_eq_true (by kernel_rfl)) (by unfold Func.isWrapper; first | (rw [if_pos (by decide +kernel)]; kernel_rfl) | (rw [if_neg (by decide +kernel)]; exact ⟨rfl, rfl⟩))
    (fun os started H enc _ => wireSizes_lifted os started H enc)

end Go.Proofs.Ytggohjdgenjijaa
