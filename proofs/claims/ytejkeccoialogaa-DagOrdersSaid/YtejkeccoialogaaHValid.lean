/-
  The page's own walks on headers: which may be.
-/
import Derived.Test.YtejkeccoialogaaHead
import Derived.Test.YtejkeccoialogaaWalks
import Derived.Test.YtejkeccoialogaaHelp
import Derived.Test.YtejkeccoialogaaMemBig
import Derived.Laws.StructEq
namespace Go.Proofs.Ytejkeccoialogaa
open Go.RowKit

theorem may_is (n : Int) : mayB n = may n := rfl
theorem ret_boolH {a b : Bool} (h : a = b) : Ending.returned (.bool a) = .returned (.bool b) := by rw [h]
theorem rmay_is (b : Bool) (n : Int) (h : mayB n = b) (w : World) : Calls Try.prog 63 #[.int .i64 n] w fun e w' => e = .returned (.bool b) ∧ w = w' := by
  cases b with
  | true => exact rmay_yes n h w
  | false => exact rmay_no n h w
theorem rquo_is (n q : Int) (h : mayB n = true) (hq : quoN n = q) (w : World) : Calls Try.prog 79 #[.int .i64 n] w fun e w' => e = .returned (.int .i64 q) ∧ w = w' :=
  hq ▸ rquorum_yes n h w
theorem rdigest_is (b : Bool) (d : Int) (h : decide (1 ≤ d ∧ d ≤ 65536) = b) (w : World) : Calls Try.prog 76 #[.int .i64 d] w fun e w' => e = .returned (.bool b) ∧ w = w' := by
  by_cases h1 : 1 ≤ d
  · by_cases h2 : d ≤ 65536
    · have hb : b = true := by rw [← h]; simp [h1, h2]
      subst hb
      clear h
      go_enter Try.func76, Try.ntmps76
      go_wp2
      go_ret
      exact ⟨ret_boolH (by first | done | rfl | simp | simp [h2]), rfl⟩
    · have hb : b = false := by rw [← h]; simp [h2]
      subst hb
      clear h
      go_enter Try.func76, Try.ntmps76
      go_wp2
      go_ret
      exact ⟨ret_boolH (by first | done | rfl | simp | simp [h2]), rfl⟩
  · have hb : b = false := by rw [← h]; simp [h1]
    subst hb
    clear h
    go_enter Try.func76, Try.ntmps76
    go_wp2
    go_ret
    exact ⟨ret_boolH (by simp), rfl⟩

theorem bet_next {lo hi : Int} {l : List Int} {k : Nat} {z : Int} (h : betB lo hi (l.take k) = true) (hz : l[k]? = some z) (h1 : lo ≤ z) (h2 : z ≤ hi) : betB lo hi (l.take (k + 1)) = true := by
  rw [take_next hz, betB, List.all_append]
  rw [betB] at h
  rw [h]
  simp [h1, h2]
theorem bet_not {lo hi : Int} {l : List Int} {k : Nat} {z : Int} (hz : l[k]? = some z) (h : ¬ (lo ≤ z ∧ z ≤ hi)) : betB lo hi l = false := by
  cases hb : betB lo hi l with
  | false => rfl
  | true => exact absurd (betB_iff.1 hb z (List.mem_of_getElem? hz)) h

theorem quiet_leftH {P : Program} {f : FuncId} {args : Array Value} {w : World} {n : Nat} {v : Value}
    (h : Calls P f args (w.drewN n) fun e w' => e = .returned v ∧ w.drewN n = w') : Calls P f args (w.drewN n) fun e w'' => e = .returned v ∧ ∃ m, w'' = w.drewN m :=
  h.mono fun _ _ ⟨he, hm⟩ => ⟨he, n, hm.symm⟩

set_option maxHeartbeats 400000 in
theorem rbetween_is (b : Bool) (A : Option Addr) (c n : Nat) (zs : List Int) (lo hi : Int) (w : World) (hb : betB lo hi zs = b) (hz : zs.length = n) (hr : Rd w A (i64s zs)) (hn : n ≤ 1073741824) :
    Calls Try.prog 78 #[.slice A n c, .int .i64 lo, .int .i64 hi] w fun e w' => e = .returned (.bool b) ∧ w = w' := by
  have HZ := Lib.hid hz
  have HB := Lib.hid hb
  clear hz hb
  go_enter Try.func78, Try.ntmps78
  go_wp2
  go_loop [7] (fun i => ∃ k : Nat, i = .int .i64 k ∧ k ≤ n ∧ Hid (betB lo hi (zs.take k) = true)) (fun i => n - (intOf i).toNat)
  case atStart => exact ⟨0, rfl, by omega, rfl⟩
  case round =>
    obtain ⟨k, rfl, hk, HE⟩ := hrel
    by_cases hlt : k < n
    · obtain ⟨b', off, rfl, hbl, hcell⟩ := hr.open_ (by rw [i64s_length, HZ.out]; omega)
      obtain ⟨z, hzk⟩ : ∃ z, zs[k]? = some z := ⟨zs[k]'(by rw [HZ.out]; exact hlt), by simp [HZ.out, hlt]⟩
      have hc1 := hcell k (.int .i64 z) (by simp [i64s, hzk])
      have HK := Lib.hid hzk
      have i0 : (0 : Int) ≤ (k : Int) := by omega
      have i1 : (k : Int) < (n : Int) := by omega
      clear hcell hzk
      by_cases h1 : z < lo
      · have HT := Lib.hid (bet_not HK.out (lo := lo) (hi := hi) (by omega))
        go_wp2
        go_ret
        exact ⟨ret_boolH (by rw [← HB.out, HT.out]), rfl⟩
      · by_cases h2 : hi < z
        · have HT := Lib.hid (bet_not HK.out (lo := lo) (hi := hi) (by omega))
          go_wp2
          go_ret
          exact ⟨ret_boolH (by rw [← HB.out, HT.out]), rfl⟩
        · have HT := Lib.hid (bet_next HE.out HK.out (by omega) (by omega))
          go_wp2
          go_round
          case rel => exact ⟨k + 1, by go_num, by omega, HT.out⟩
          case measure => simp [intOf]; omega
    · have i1 : ¬ ((k : Int) < (n : Int)) := by omega
      have HT : Hid (betB lo hi zs = true) := by
        have := HE.out
        rwa [List.take_of_length_le (by rw [HZ.out]; omega)] at this
      go_wp2
      go_ret
      exact ⟨ret_boolH (by rw [← HB.out, HT.out]), rfl⟩

/-- rising as far as an index -/
def RisTo (zs : List Int) (j : Nat) : Prop := ∀ (i : Nat) (x y : Int), i < j → zs[i]? = some x → zs[i + 1]? = some y → x < y
theorem risTo_all {zs : List Int} {j : Nat} (h : RisTo zs j) (hl : zs.length ≤ j + 1) : risB zs = true := risB_iff.2 fun i x y hx hy => by
  refine h i x y ?_ hx hy
  rcases Nat.lt_or_ge (i + 1) zs.length with h' | h'
  · omega
  · rw [List.getElem?_eq_none h'] at hy; cases hy
theorem risTo_next {zs : List Int} {j : Nat} {x y : Int} (h : RisTo zs j) (hx : zs[j]? = some x) (hy : zs[j + 1]? = some y) (hxy : x < y) : RisTo zs (j + 1) := fun i u v hi hu hv => by
  by_cases hij : i = j
  · subst hij
    rw [hx] at hu
    rw [hy] at hv
    cases hu
    cases hv
    exact hxy
  · exact h i u v (by omega) hu hv
theorem ris_not {zs : List Int} {j : Nat} {x y : Int} (hx : zs[j]? = some x) (hy : zs[j + 1]? = some y) (hxy : y ≤ x) : risB zs = false := by
  cases hb : risB zs with
  | false => rfl
  | true => have := risB_iff.1 hb j x y hx hy; omega

set_option maxHeartbeats 800000 in
theorem rrising_is (b : Bool) (A : Option Addr) (c n : Nat) (zs : List Int) (w : World) (hb : risB zs = b) (hz : zs.length = n) (hr : Rd w A (i64s zs)) (hn : n ≤ 1073741824) :
    Calls Try.prog 77 #[.slice A n c] w fun e w' => e = .returned (.bool b) ∧ ∃ d, w' = w.drewN d := by
  have HZ := Lib.hid hz
  have HB := Lib.hid hb
  clear hz hb
  go_enter Try.func77, Try.ntmps77
  go_wp2
  go_loopw [3] (fun i wr => ∃ j d : Nat, i = .int .i64 ((j : Int) + 1) ∧ j ≤ n ∧ Hid (RisTo zs j) ∧ wr = w.drewN d) (fun i _ => n + 1 - (intOf i).toNat)
  case atStart => exact ⟨0, 0, rfl, by omega, fun i x y hi => absurd hi (by omega), rfl⟩
  case round =>
    obtain ⟨j, d, rfl, hj, HE, rfl⟩ := hrel
    by_cases hlt : j + 1 < n
    · obtain ⟨b', off, rfl, hbl, hcell⟩ := hr.open_ (by rw [i64s_length, HZ.out]; omega)
      obtain ⟨x, hx⟩ : ∃ x, zs[j]? = some x := ⟨zs[j]'(by rw [HZ.out]; omega), by simp⟩
      obtain ⟨y, hy⟩ : ∃ y, zs[j + 1]? = some y := ⟨zs[j + 1]'(by rw [HZ.out]; omega), by simp⟩
      have hc1 := hcell j (.int .i64 x) (by simp [i64s, hx])
      have hc2 := hcell (j + 1) (.int .i64 y) (by simp [i64s, hy])
      have HX := Lib.hid hx
      have HY := Lib.hid hy
      have i0 : (0 : Int) ≤ (j : Int) := by omega
      have i1 : (j : Int) < (n : Int) := by omega
      have i2 : (0 : Int) ≤ (j : Int) + 1 := by omega
      have i3 : (j : Int) + 1 < (n : Int) := by omega
      have s1 : wrap64 (j : Int) = (j : Int) := IntWalk.wrap64_in _ (by omega)
      have s2 : IntKind.i64.wrap (j : Int) = (j : Int) := IntWalk.i64_in _ (by omega)
      have s3 : IntKind.i64.wrap ((j : Int) + 1 - 1) = (j : Int) := by rw [IntWalk.i64_in _ (by omega)]; omega
      have t1 : ((j : Int) + 1).toNat = j + 1 := by omega
      clear hcell hx hy
      by_cases hxy : y ≤ x
      · have HT := Lib.hid (ris_not HX.out HY.out hxy)
        go_wp2
        go_quiet (fail)
        go_wp2
        go_ret
        exact ⟨ret_boolH (by rw [← HB.out, HT.out]), d + _, World.drewN_drewN _ _ _⟩
      · have HT := Lib.hid (risTo_next HE.out HX.out HY.out (by omega))
        go_wp2
        go_quiet (fail)
        go_wp2
        go_roundw
        case rel => exact ⟨j + 1, _, by go_num, by omega, HT.out, by first | rfl | exact World.drewN_drewN _ _ _⟩
        case measure => simp [intOf]; omega
    · have i1 : ¬ ((j : Int) + 1 < (n : Int)) := by omega
      have HT := Lib.hid (risTo_all HE.out (by rw [HZ.out]; omega))
      go_wp2
      go_ret
      exact ⟨ret_boolH (by rw [← HB.out, HT.out]), d, rfl⟩

theorem rdigests0_is (b : Bool) (A : Option Addr) (c n : Nat) (zs : List Int) (w : World) (hb : betB 1 65536 zs = b) (hz : zs.length = n) (hr : Rd w A (i64s zs)) (hn : n ≤ 1073741824) :
    Calls Try.prog 109 #[.slice A n c] w fun e w' => e = .returned (.bool b) ∧ w = w' := by
  have HB := Lib.hid hb
  have HZ := Lib.hid hz
  clear hb hz
  go_enter Try.func109, Try.ntmps109
  go_wp2_with fail
  refine (rbetween_is b A c n zs 1 65536 _ HB.out HZ.out hr hn).mono ?_
  rintro e w' ⟨rfl, rfl⟩
  go_wp2_with fail
  go_ret
  exact ⟨rfl, rfl⟩

set_option maxHeartbeats 400000 in
theorem rdigs_is (b : Bool) (A : Option Addr) (c n : Nat) (zs : List Int) (most : Int) (w : World) (hb : digsB zs most = b) (hz : zs.length = n) (hr : Rd w A (i64s zs)) (hn : n ≤ 1073741824) :
    Calls Try.prog 98 #[.slice A n c, .int .i64 most] w fun e w' => e = .returned (.bool b) ∧ ∃ d, w' = w.drewN d := by
  subst hb
  have HZ := Lib.hid hz
  by_cases h1 : (n : Int) ≤ most
  · cases h2 : betB 1 65536 zs with
    | true =>
      have HD : Hid (digsB zs most = risB zs) := by show digsB zs most = risB zs; rw [digsB, hz, decide_eq_true h1, h2]; simp
      have H2 := Lib.hid h2
      clear h2 hz
      go_enter Try.func98, Try.ntmps98
      go_wp2_with fail
      refine (rdigests0_is true A c n zs _ H2.out HZ.out hr hn).mono ?_
      rintro e w' ⟨rfl, rfl⟩
      go_wp2_with fail
      refine (rrising_is (risB zs) A c n zs _ rfl HZ.out hr hn).mono ?_
      rintro e w' ⟨rfl, d, rfl⟩
      go_wp2_with fail
      go_ret
      exact ⟨ret_boolH (by rw [HD.out]), d, rfl⟩
    | false =>
      have HD : Hid (digsB zs most = false) := by show digsB zs most = false; rw [digsB, h2]; simp
      have H2 := Lib.hid h2
      clear h2 hz
      go_enter Try.func98, Try.ntmps98
      go_wp2_with fail
      refine (rdigests0_is false A c n zs _ H2.out HZ.out hr hn).mono ?_
      rintro e w' ⟨rfl, rfl⟩
      go_wp2_with fail
      go_ret
      exact ⟨ret_boolH (by rw [HD.out]), 0, rfl⟩
  · have HD : Hid (digsB zs most = false) := by show digsB zs most = false; rw [digsB, hz, decide_eq_false h1]; simp
    clear hz
    go_enter Try.func98, Try.ntmps98
    go_wp2_with fail
    go_ret
    exact ⟨ret_boolH (by rw [HD.out]), 0, rfl⟩

set_option maxRecDepth 10000 in
set_option maxHeartbeats 4000000 in
theorem rhdr_is (b : Bool) (a r : Int) (AB : Option Addr) (cB nB : Nat) (B : List Int) (AP : Option Addr) (cP nP : Nat) (P : List Int) (n : Int) (w : World) (h : hdrB a r B P n = b) (hzB : B.length = nB) (hrB : Rd w AB (i64s B)) (hnB : nB ≤ 1073741824) (hzP : P.length = nP) (hrP : Rd w AP (i64s P)) (hnP : nP ≤ 1073741824) :
    Calls Try.prog 75 #[.agg #[.int .i64 a, .int .i64 r, .slice AB nB cB, .slice AP nP cP], .int .i64 n] w (Tells w.heap.size w (.bool b)) := by
  subst h
  have hbel := (Below.refl w.heap.size w).alloc (Nat.le_refl _) (.cells #[.int .i64 a, .int .i64 r, .slice AB nB cB, .slice AP nP cP] 35)
  have hrB1 := hrB.alloc (.cells #[.int .i64 a, .int .i64 r, .slice AB nB cB, .slice AP nP cP] 35)
  have hrP1 := hrP.alloc (.cells #[.int .i64 a, .int .i64 r, .slice AB nB cB, .slice AP nP cP] 35)
  have HZB := Lib.hid hzB
  have HZP := Lib.hid hzP
  cases hM : mayB n with
  | false =>
    have HV : Hid (hdrB a r B P n = false) := by show hdrB a r B P n = false; unfold hdrB; simp only [decide_eq_false_iff_not]; rintro ⟨q0, ⟨q1, q2⟩, ⟨q3, q4⟩, q5, q6, q7⟩; rw [hM] at q0; cases q0
    have HM := Lib.hid hM
    clear hM hzB hzP
    go_enter Try.func75, Try.ntmps75
    go_wp2_with fail
    refine (rmay_is false n HM.out _).mono ?_
    rintro e w' ⟨rfl, rfl⟩
    go_wp2_with fail
    go_ret
    exact ⟨ret_boolH (by rw [HV.out]; first | done | rfl | simp), hbel⟩
  | true =>
    by_cases g1 : a < 1
    · have HV : Hid (hdrB a r B P n = false) := by show hdrB a r B P n = false; unfold hdrB; simp only [decide_eq_false_iff_not]; rintro ⟨q0, ⟨q1, q2⟩, ⟨q3, q4⟩, q5, q6, q7⟩; omega
      have HM := Lib.hid hM
      clear hM hzB hzP
      go_enter Try.func75, Try.ntmps75
      go_wp2_with fail
      refine (rmay_is true n HM.out _).mono ?_
      rintro e w' ⟨rfl, rfl⟩
      go_wp2_with fail
      go_ret
      exact ⟨ret_boolH (by rw [HV.out]; first | done | rfl | simp), hbel⟩
    by_cases g2 : n < a
    · have HV : Hid (hdrB a r B P n = false) := by show hdrB a r B P n = false; unfold hdrB; simp only [decide_eq_false_iff_not]; rintro ⟨q0, ⟨q1, q2⟩, ⟨q3, q4⟩, q5, q6, q7⟩; omega
      have HM := Lib.hid hM
      clear hM hzB hzP
      go_enter Try.func75, Try.ntmps75
      go_wp2_with fail
      refine (rmay_is true n HM.out _).mono ?_
      rintro e w' ⟨rfl, rfl⟩
      go_wp2_with fail
      go_ret
      exact ⟨ret_boolH (by rw [HV.out]; first | done | rfl | simp), hbel⟩
    by_cases g3 : r < 1
    · have HV : Hid (hdrB a r B P n = false) := by show hdrB a r B P n = false; unfold hdrB; simp only [decide_eq_false_iff_not]; rintro ⟨q0, ⟨q1, q2⟩, ⟨q3, q4⟩, q5, q6, q7⟩; omega
      have HM := Lib.hid hM
      clear hM hzB hzP
      go_enter Try.func75, Try.ntmps75
      go_wp2_with fail
      refine (rmay_is true n HM.out _).mono ?_
      rintro e w' ⟨rfl, rfl⟩
      go_wp2_with fail
      go_ret
      exact ⟨ret_boolH (by rw [HV.out]; first | done | rfl | simp), hbel⟩
    by_cases g4 : 1099511627776 < r
    · have HV : Hid (hdrB a r B P n = false) := by show hdrB a r B P n = false; unfold hdrB; simp only [decide_eq_false_iff_not]; rintro ⟨q0, ⟨q1, q2⟩, ⟨q3, q4⟩, q5, q6, q7⟩; omega
      have HM := Lib.hid hM
      clear hM hzB hzP
      go_enter Try.func75, Try.ntmps75
      go_wp2_with fail
      refine (rmay_is true n HM.out _).mono ?_
      rintro e w' ⟨rfl, rfl⟩
      go_wp2_with fail
      go_ret
      exact ⟨ret_boolH (by rw [HV.out]; first | done | rfl | simp), hbel⟩
    cases hB : digsB B 8 with
    | false =>
      have HV : Hid (hdrB a r B P n = false) := by show hdrB a r B P n = false; unfold hdrB; simp only [decide_eq_false_iff_not]; rintro ⟨q0, ⟨q1, q2⟩, ⟨q3, q4⟩, q5, q6, q7⟩; rw [hB] at q5; cases q5
      have HM := Lib.hid hM
      have HB := Lib.hid hB
      clear hB hM hzB hzP
      go_enter Try.func75, Try.ntmps75
      go_wp2_with fail
      refine (rmay_is true n HM.out _).mono ?_
      rintro e w' ⟨rfl, rfl⟩
      go_wp2_with fail
      refine (rdigs_is false AB cB nB B 8 _ HB.out HZB.out hrB1 hnB).mono ?_
      rintro e wB ⟨rfl, dB, rfl⟩
      go_wp2_with fail
      go_ret
      exact ⟨ret_boolH (by rw [HV.out]; first | done | rfl | simp), below_n hbel _⟩
    | true =>
      cases hP : digsB P n with
      | false =>
        have HV : Hid (hdrB a r B P n = false) := by show hdrB a r B P n = false; unfold hdrB; simp only [decide_eq_false_iff_not]; rintro ⟨q0, ⟨q1, q2⟩, ⟨q3, q4⟩, q5, q6, q7⟩; rw [hP] at q6; cases q6
        have HM := Lib.hid hM
        have HB := Lib.hid hB
        have HP := Lib.hid hP
        clear hB hP hM hzB hzP
        go_enter Try.func75, Try.ntmps75
        go_wp2_with fail
        refine (rmay_is true n HM.out _).mono ?_
        rintro e w' ⟨rfl, rfl⟩
        go_wp2_with fail
        refine (rdigs_is true AB cB nB B 8 _ HB.out HZB.out hrB1 hnB).mono ?_
        rintro e wB ⟨rfl, dB, rfl⟩
        go_wp2_with fail
        refine (rdigs_is false AP cP nP P n _ HP.out HZP.out ((hrP1).drewN _) hnP).mono ?_
        rintro e wP ⟨rfl, dP, rfl⟩
        go_wp2_with fail
        go_ret
        exact ⟨ret_boolH (by rw [HV.out]; first | done | rfl | simp), (by first | exact below_n hbel _ | exact below_n (below_n hbel _) _)⟩
      | true =>
        by_cases g5 : r = 1
        · have g6 : (r == 1) = true := by simp [g5]
          by_cases g7 : nP = 0
          · have HV : Hid (hdrB a r B P n = true) := by show hdrB a r B P n = true; unfold hdrB; simp only [decide_eq_true_eq]; exact ⟨hM, ⟨by omega, by omega⟩, ⟨by omega, by omega⟩, hB, hP, by rw [if_pos g5, hzP]; exact g7⟩
            have HM := Lib.hid hM
            have HB := Lib.hid hB
            have HP := Lib.hid hP
            have g8 : ((nP : Int) == 0) = true := by simp [g7]
            clear hB hP hM hzB hzP g5 g7
            go_enter Try.func75, Try.ntmps75
            go_wp2_with fail
            refine (rmay_is true n HM.out _).mono ?_
            rintro e w' ⟨rfl, rfl⟩
            go_wp2_with fail
            refine (rdigs_is true AB cB nB B 8 _ HB.out HZB.out hrB1 hnB).mono ?_
            rintro e wB ⟨rfl, dB, rfl⟩
            go_wp2_with fail
            refine (rdigs_is true AP cP nP P n _ HP.out HZP.out ((hrP1).drewN _) hnP).mono ?_
            rintro e wP ⟨rfl, dP, rfl⟩
            go_wp2_with fail
            go_ret
            exact ⟨ret_boolH (by rw [HV.out]; first | done | rfl | simp only [g8] | (simp only [g8]; rfl)), (by first | exact below_n hbel _ | exact below_n (below_n hbel _) _)⟩
          · have HV : Hid (hdrB a r B P n = false) := by show hdrB a r B P n = false; unfold hdrB; simp only [decide_eq_false_iff_not]; rintro ⟨q0, ⟨q1, q2⟩, ⟨q3, q4⟩, q5, q6, q7⟩; rw [if_pos g5, hzP] at q7; exact g7 q7
            have HM := Lib.hid hM
            have HB := Lib.hid hB
            have HP := Lib.hid hP
            have g8 : ((nP : Int) == 0) = false := by simp; omega
            clear hB hP hM hzB hzP g5 g7
            go_enter Try.func75, Try.ntmps75
            go_wp2_with fail
            refine (rmay_is true n HM.out _).mono ?_
            rintro e w' ⟨rfl, rfl⟩
            go_wp2_with fail
            refine (rdigs_is true AB cB nB B 8 _ HB.out HZB.out hrB1 hnB).mono ?_
            rintro e wB ⟨rfl, dB, rfl⟩
            go_wp2_with fail
            refine (rdigs_is true AP cP nP P n _ HP.out HZP.out ((hrP1).drewN _) hnP).mono ?_
            rintro e wP ⟨rfl, dP, rfl⟩
            go_wp2_with fail
            go_ret
            exact ⟨ret_boolH (by rw [HV.out]; first | done | rfl | simp only [g8] | (simp only [g8]; rfl)), (by first | exact below_n hbel _ | exact below_n (below_n hbel _) _)⟩
        · have g6 : (r == 1) = false := by simp [g5]
          obtain ⟨q, hq⟩ : ∃ q, quoN n = q := ⟨_, rfl⟩
          have HQ := Lib.hid hq
          by_cases g7 : q ≤ (nP : Int)
          · have HV : Hid (hdrB a r B P n = true) := by show hdrB a r B P n = true; unfold hdrB; simp only [decide_eq_true_eq]; exact ⟨hM, ⟨by omega, by omega⟩, ⟨by omega, by omega⟩, hB, hP, by rw [if_neg g5, hzP, hq]; exact g7⟩
            have HM := Lib.hid hM
            have HB := Lib.hid hB
            have HP := Lib.hid hP
            clear hB hP hM hzB hzP g5 hq
            go_enter Try.func75, Try.ntmps75
            go_wp2_with fail
            refine (rmay_is true n HM.out _).mono ?_
            rintro e w' ⟨rfl, rfl⟩
            go_wp2_with fail
            refine (rdigs_is true AB cB nB B 8 _ HB.out HZB.out hrB1 hnB).mono ?_
            rintro e wB ⟨rfl, dB, rfl⟩
            go_wp2_with fail
            refine (rdigs_is true AP cP nP P n _ HP.out HZP.out ((hrP1).drewN _) hnP).mono ?_
            rintro e wP ⟨rfl, dP, rfl⟩
            obtain ⟨wD, hwD⟩ : ∃ wD, wD = ((w.alloc (.cells #[.int .i64 a, .int .i64 r, .slice AB nB cB, .slice AP nP cP] 35)).drewN dB).drewN dP := ⟨_, rfl⟩
            have hbD : Below w.heap.size w wD := by rw [hwD]; exact below_n (below_n hbel _) _
            have k1 : wD.cell? ⟨w.heap.size, 1, none⟩ = some (.int .i64 r) := by rw [hwD]; show (w.alloc (.cells #[.int .i64 a, .int .i64 r, .slice AB nB cB, .slice AP nP cP] 35)).cell? _ = _; rw [World.cell?_alloc_at _ _ _ _ rfl]; rfl
            have k3 : wD.cell? ⟨w.heap.size, 3, none⟩ = some (.slice AP nP cP) := by rw [hwD]; show (w.alloc (.cells #[.int .i64 a, .int .i64 r, .slice AB nB cB, .slice AP nP cP] 35)).cell? _ = _; rw [World.cell?_alloc_at _ _ _ _ rfl]; rfl
            rw [← hwD]
            clear hwD
            go_wp2_with fail
            go_quiet ((go_at_call 79; exact quiet_leftH (rquo_is n q HM.out HQ.out _)))
            go_wp2_with fail
            go_ret
            exact ⟨ret_boolH (by rw [HV.out]; first | done | rfl | simp [g7]), (by first | exact below_n hbD _ | exact hbD)⟩
          · have HV : Hid (hdrB a r B P n = false) := by show hdrB a r B P n = false; unfold hdrB; simp only [decide_eq_false_iff_not]; rintro ⟨q0, ⟨q1, q2⟩, ⟨q3, q4⟩, q5, q6, q7⟩; rw [if_neg g5, hzP, hq] at q7; exact g7 q7
            have HM := Lib.hid hM
            have HB := Lib.hid hB
            have HP := Lib.hid hP
            clear hB hP hM hzB hzP g5 hq
            go_enter Try.func75, Try.ntmps75
            go_wp2_with fail
            refine (rmay_is true n HM.out _).mono ?_
            rintro e w' ⟨rfl, rfl⟩
            go_wp2_with fail
            refine (rdigs_is true AB cB nB B 8 _ HB.out HZB.out hrB1 hnB).mono ?_
            rintro e wB ⟨rfl, dB, rfl⟩
            go_wp2_with fail
            refine (rdigs_is true AP cP nP P n _ HP.out HZP.out ((hrP1).drewN _) hnP).mono ?_
            rintro e wP ⟨rfl, dP, rfl⟩
            obtain ⟨wD, hwD⟩ : ∃ wD, wD = ((w.alloc (.cells #[.int .i64 a, .int .i64 r, .slice AB nB cB, .slice AP nP cP] 35)).drewN dB).drewN dP := ⟨_, rfl⟩
            have hbD : Below w.heap.size w wD := by rw [hwD]; exact below_n (below_n hbel _) _
            have k1 : wD.cell? ⟨w.heap.size, 1, none⟩ = some (.int .i64 r) := by rw [hwD]; show (w.alloc (.cells #[.int .i64 a, .int .i64 r, .slice AB nB cB, .slice AP nP cP] 35)).cell? _ = _; rw [World.cell?_alloc_at _ _ _ _ rfl]; rfl
            have k3 : wD.cell? ⟨w.heap.size, 3, none⟩ = some (.slice AP nP cP) := by rw [hwD]; show (w.alloc (.cells #[.int .i64 a, .int .i64 r, .slice AB nB cB, .slice AP nP cP] 35)).cell? _ = _; rw [World.cell?_alloc_at _ _ _ _ rfl]; rfl
            rw [← hwD]
            clear hwD
            go_wp2_with fail
            go_quiet ((go_at_call 79; exact quiet_leftH (rquo_is n q HM.out HQ.out _)))
            go_wp2_with fail
            go_ret
            exact ⟨ret_boolH (by rw [HV.out]; first | done | rfl | simp [g7]), (by first | exact below_n hbD _ | exact hbD)⟩

end Go.Proofs.Ytejkeccoialogaa
