/-
 Package header's Cert.
-/
import Derived.Test.YteepobghdpnabaaGreatKDb
namespace Go.Proofs.YteepobghdpnabaaGreat
open Go.RowKit

/-! ### rising nodes are unlike nodes -/
theorem upB_split : ∀ {m most x : Int} {L r : List Int}, upB m most (L ++ x :: r) = true → ∀ y ∈ L, y < x
 | m, most, x, [], r, _ => fun y h => by simp at h
 | m, most, x, z :: L, r, h => fun y hy => by
  rw [List.cons_append, upB_cons, Bool.and_eq_true] at h
  rcases List.mem_cons.1 hy with rfl | hy
  ·exact ((upB_iff.1 h.2).1 x (by simp)).1
  ·exact upB_split h.2 y hy
theorem tal_ris {n : Int} {S : List Int} (h : upB 0 n S = true) (hn : n ≤ 16) : ∀ k : Nat, k ≤ S.length → tal n (S.take k) = k
 | 0, _ => by rw [List.take_zero]; exact tal_nil n
 | k + 1, hk => by
  have ih := tal_ris h hn k (by omega)
  have hx : S[k]? = some (S[k]?.getD 0) := at_some (by omega)
  obtain ⟨x, hxe⟩ : ∃ x, S[k]?.getD 0 = x := ⟨_, rfl⟩
  rw [hxe] at hx
  have hmem := (upB_iff.1 h).1 x (List.mem_of_getElem? hx)
  have hsp : S = S.take k ++ x :: S.drop (k + 1) := by
   conv => lhs; rw [← List.take_append_drop k S]
   rw [drop_at (l := S) (k := k) (by omega), hxe]
  have hlt := upB_split (L := S.take k) (by rw [← hsp]; exact h)
  obtain ⟨q, rfl⟩ : ∃ q : Nat, x = (q : Int) := ⟨x.toNat, by omega⟩
  rw [take_one hx, tal_new ?_ (by omega) (by omega) (by omega), ih]
  unfold seen
  rw [decide_eq_false_iff_not]
  rintro ⟨_, _, hm⟩
  have := hlt _ hm
  omega
theorem enough_ris {n : Int} {S : List Int} (h : upB 0 n S = true) (hn : n ≤ 16) : enough n S = decide (quoN n ≤ (S.length : Int)) := by
 unfold enough quoN
 rw [← tal_ris h hn S.length (Nat.le_refl _), List.take_length]

theorem cert_is {a r : Int} {B P : List Int} {d : Int} {S : List Int} {n : Int} : certB a r B P d S n = true ↔ hdrB a r B P n = true ∧ (1 ≤ d ∧ d ≤ 65536) ∧ upB 0 n S = true ∧ enough n S = true := by
 unfold certB
 rw [decide_eq_true_eq, upB_ris, Bool.and_eq_true]
 constructor
 ·rintro ⟨h1, h2, h3, h4, h5⟩
  refine ⟨h1, h2, ⟨h4, h3⟩, ?_⟩
  have hm : 1 ≤ n ∧ n ≤ 16 ∧ n % 3 = 1 := by simpa only [mayB, decide_eq_true_eq] using hcheck_in h1
  rw [enough_ris (by rw [upB_ris, Bool.and_eq_true]; exact ⟨h4, h3⟩) hm.2.1, decide_eq_true_eq]
  exact h5
 ·rintro ⟨h1, h2, ⟨h3, h4⟩, h5⟩
  refine ⟨h1, h2, h4, h3, ?_⟩
  have hm : 1 ≤ n ∧ n ≤ 16 ∧ n % 3 = 1 := by simpa only [mayB, decide_eq_true_eq] using hcheck_in h1
  rw [enough_ris (by rw [upB_ris, Bool.and_eq_true]; exact ⟨h3, h4⟩) hm.2.1, decide_eq_true_eq] at h5
  exact h5

set_option maxHeartbeats 2000000 in
theorem hcert_is (b : Bool) (a r : Int) (AB : Option Addr) (cB nB : Nat) (B : List Int) (AP : Option Addr) (cP nP : Nat) (P : List Int) (d : Int) (AS : Option Addr) (cS nS : Nat) (S : List Int) (n : Int) (w : World) (h : certB a r B P d S n = b) (hi : HdrIn w AB cB nB B AP cP nP P) (hs : NumsIn w AS cS nS S) (hlS : nS ≤ 1000000) :
  Calls Tryz.prog 150 #[.agg #[.int .i64 a, .int .i64 r, .slice AB nB cB, .slice AP nP cP, .int .i64 d, .slice AS nS cS], .int .i64 n] w (Tells w.heap.size w (.int .i64 (okV b))) := by
 obtain ⟨w1, hw1⟩ : ∃ w1, w1 = w.alloc (.cells #[.int .i64 a, .int .i64 r, .slice AB nB cB, .slice AP nP cP, .int .i64 d, .slice AS nS cS] 46) := ⟨_, rfl⟩
 have hb1 : Below w.heap.size w w1 := by rw [hw1]; exact (Below.refl _ _).alloc (Nat.le_refl _) _
 have HBX := Lib.hid (cbox_new hw1)
 have hi1 := hi.below hb1
 have hrS := hs.hr.below hb1
 have HZS := Lib.hid hs.hz
 have HW := Lib.hid hw1
 clear hw1 hs
 cases hh : hdrB a r B P n with
 | false =>
  have HH := Lib.hid hh
  have HN : Hid (b = false) := by
   show b = false
   rw [← h]
   cases h5 : certB a r B P d S n with
   | false => rfl
   | true => rw [(cert_is.1 h5).1] at hh; cases hh
  clear hh h
  obtain ⟨c0, c1, c2, c3, c4, c5⟩ := HBX.out _ (Below.refl _ _)
  go_enter Tryz.func150, Tryz.ntmps150
  go_wp2_with fail
  rw [← HW.out]
  go_wp2_with fail
  refine (hcheck_no a r AB cB nB B AP cP nP P n _ HH.out hi1).mono ?_
  rintro e w2 ⟨rfl, hb2⟩
  have hb3 := hb1.trans (hb2.mono hb1.size)
  clear c0 c1 c2 c3 c4 c5
  go_wp2_with fail
  go_ret
  exact ⟨by rw [HN.out]; rfl, hb3⟩
 | true =>
  have HH := Lib.hid hh
  have hm : 1 ≤ n ∧ n ≤ 16 ∧ n % 3 = 1 := by simpa only [mayB, decide_eq_true_eq] using hcheck_in hh
  have HM : Hid (may n = true) := (may_mayB n).trans (hcheck_in hh)
  have HC : Hid (certB a r B P d S n = b) := h
  clear hh h
  go_enter Tryz.func150, Tryz.ntmps150
  go_wp2_with fail
  rw [← HW.out]
  obtain ⟨c0, c1, c2, c3, c4, c5⟩ := HBX.out _ (Below.refl _ _)
  go_wp2_with fail
  refine (hcheck_yes a r AB cB nB B AP cP nP P n _ HH.out hi1).mono ?_
  rintro e w2 ⟨rfl, hb2⟩
  have hb3 := hb1.trans (hb2.mono hb1.size)
  clear c0 c1 c2 c3 c4 c5
  obtain ⟨c0, c1, c2, c3, c4, c5⟩ := HBX.out _ hb2
  have hrS2 := hrS.below hb2
  clear c0 c1 c2 c3
  by_cases h1 : d < 1
  ·have HN : Hid (b = false) := by
    show b = false
    rw [← HC.out]
    cases h5 : certB a r B P d S n with
    | false => rfl
    | true => have := (cert_is.1 h5).2.1; omega
   go_wp2_with fail
   go_ret
   exact ⟨by rw [HN.out]; rfl, hb3⟩
  by_cases h2 : 65536 < d
  ·have HN : Hid (b = false) := by
    show b = false
    rw [← HC.out]
    cases h5 : certB a r B P d S n with
    | false => rfl
    | true => have := (cert_is.1 h5).2.1; omega
   go_wp2_with fail
   go_ret
   exact ⟨by rw [HN.out]; rfl, hb3⟩
  cases hu : upB 0 n S with
  | false =>
   have HU := Lib.hid hu
   have HN : Hid (b = false) := by
    show b = false
    rw [← HC.out]
    cases h5 : certB a r B P d S n with
    | false => rfl
    | true => rw [(cert_is.1 h5).2.2.1] at hu; cases hu
   clear hu
   go_wp2_with fail
   refine (isRising_is false AS cS nS S _ _ HU.out HZS.out hrS2 (by omega)).mono ?_
   rintro e w' ⟨rfl, rfl⟩
   go_wp2_with fail
   go_ret
   exact ⟨by rw [HN.out]; rfl, hb3⟩
  | true =>
   have HU := Lib.hid hu
   clear hu
   go_wp2_with fail
   refine (isRising_is true AS cS nS S _ _ HU.out HZS.out hrS2 (by omega)).mono ?_
   rintro e w' ⟨rfl, rfl⟩
   go_wp2_with fail
   refine (enough_yes n AS cS nS S _ HM.out HZS.out hrS2 (by omega)).mono ?_
   rintro e w3 ⟨rfl, hb4⟩
   have hb5 := hb3.trans (hb4.mono hb3.size)
   cases he : enough n S with
   | true =>
    have HN : Hid (b = true) := by
     show b = true
     rw [← HC.out]
     exact cert_is.2 ⟨HH.out, by omega, HU.out, he⟩
    clear he
    go_wp2_with fail
    go_ret
    exact ⟨by rw [HN.out]; rfl, hb5⟩
   | false =>
    have HN : Hid (b = false) := by
     show b = false
     rw [← HC.out]
     cases h5 : certB a r B P d S n with
     | false => rfl
     | true => rw [(cert_is.1 h5).2.2.2] at he; cases he
    clear he
    go_wp2_with fail
    go_ret
    exact ⟨by rw [HN.out]; rfl, hb5⟩

end Go.Proofs.YteepobghdpnabaaGreat
namespace Go.Proofs.YteepobghdpnabaaGreat
open Go.RowKit

theorem isDigest_is (b : Bool) (d : Int) (h : digB d = b) (w : World) : Calls Tryz.prog 149 #[.int .i64 d] w fun e w' => e = .returned (.bool b) ∧ w = w' := by
 have HB := Lib.hid h
 clear h
 by_cases h1 : 1 ≤ d
 ·by_cases h2 : d ≤ 65536
  ·have HN : Hid (b = true) := HB.out.symm.trans (by unfold digB; rw [decide_eq_true_eq]; omega)
   go_enter Tryz.func149, Tryz.ntmps149
   go_wp2_with fail
   go_ret
   exact ⟨ret_bool (by rw [HN.out]), rfl⟩
  ·have HN : Hid (b = false) := HB.out.symm.trans (by unfold digB; rw [decide_eq_false_iff_not]; omega)
   go_enter Tryz.func149, Tryz.ntmps149
   go_wp2_with fail
   go_ret
   exact ⟨ret_bool (by rw [HN.out]), rfl⟩
 ·have HN : Hid (b = false) := HB.out.symm.trans (by unfold digB; rw [decide_eq_false_iff_not]; omega)
  go_enter Tryz.func149, Tryz.ntmps149
  go_wp2_with fail
  go_ret
  exact ⟨ret_bool (by rw [HN.out]), rfl⟩

def nodeB (who n : Int) : Bool := decide (mayB n = true ∧ 1 ≤ who ∧ who ≤ n)
theorem node_hdr (who n : Int) : hdrB who 1 [] [] n = nodeB who n := by
 unfold hdrB nodeB
 rw [decide_eq_decide]
 constructor
 ·rintro ⟨h1, h2, _⟩; exact ⟨h1, h2.1, h2.2⟩
 ·rintro ⟨h1, h2, h3⟩
  have hn := may_le h1
  exact ⟨h1, ⟨h2, h3⟩, by omega, rfl, dig_nil rfl (by omega), by simp⟩
theorem mnums_none (w : World) : NumsIn w none 0 0 [] := ⟨rfl, Rd.nil _ _, Nat.le_refl _, by simp [maxLen], fun x hx => by simp at hx⟩
theorem mhdr_none (w : World) : HdrIn w none 0 0 [] none 0 0 [] := ⟨mnums_none w, mnums_none w, by omega, by omega⟩

theorem isNode_is (b : Bool) (who n : Int) (w : World) (h : nodeB who n = b) :
  Calls Tryz.prog 136 #[.int .i64 who, .int .i64 n] w (Tells w.heap.size w (.bool b)) := by
 have HH : Hid (hdrB who 1 [] [] n = b) := (node_hdr who n).trans h
 clear h
 go_enter Tryz.func136, Tryz.ntmps136
 go_wp2_with fail
 refine (hcheck_is b who 1 none 0 0 [] none 0 0 [] n _ HH.out (mhdr_none _)).mono ?_
 rintro e w2 ⟨rfl, hb2⟩
 cases b with
 | true =>
  go_wp2_with fail
  go_ret
  exact ⟨rfl, hb2⟩
 | false =>
  go_wp2_with fail
  go_ret
  exact ⟨rfl, hb2⟩

def wantB (l : List Int) : Bool := decide (1 ≤ l.length) && digsB l 16
set_option maxHeartbeats 1000000 in
theorem isWanted_is (b : Bool) (A : Option Addr) (c n : Nat) (l : List Int) (w : World) (h : wantB l = b) (hz : l.length = n) (hr : Rd w A (i64s l)) (hn : n ≤ 1073741824) :
  Calls Tryz.prog 151 #[.slice A n c] w fun e w' => e = .returned (.bool b) ∧ w = w' := by
 have HZ := Lib.hid hz
 have HB := Lib.hid h
 clear hz h
 by_cases g1 : (n : Int) < 1
 ·have HN : Hid (b = false) := HB.out.symm.trans (by
   have : ¬ (1 ≤ l.length) := by rw [HZ.out]; omega
   unfold wantB; rw [decide_eq_false this, Bool.false_and])
  go_enter Tryz.func151, Tryz.ntmps151
  go_wp2_with fail
  go_ret
  exact ⟨ret_bool HN.out.symm, rfl⟩
 by_cases g2 : 16 < (n : Int)
 ·have HN : Hid (b = false) := HB.out.symm.trans (by
   have : ¬ ((l.length : Int) ≤ 16) := by rw [HZ.out]; omega
   unfold wantB digsB; rw [decide_eq_false this, Bool.false_and, Bool.and_false])
  go_enter Tryz.func151, Tryz.ntmps151
  go_wp2_with fail
  go_ret
  exact ⟨ret_bool HN.out.symm, rfl⟩
 have HU : Hid (upB 0 65536 l = b) := by
  show upB 0 65536 l = b
  rw [← HB.out]
  have e1 : decide (1 ≤ l.length) = true := decide_eq_true (by rw [HZ.out]; omega)
  unfold wantB
  rw [e1, Bool.true_and, Bool.eq_iff_iff, dig_up]
  have : (l.length : Int) ≤ 16 := by rw [HZ.out]; omega
  exact ⟨fun h => ⟨this, h⟩, fun h => h.2⟩
 go_enter Tryz.func151, Tryz.ntmps151
 go_wp2_with fail
 go_loop [3, 16] (fun v i => ∃ (k : Nat) (m : Int), i = .int .i64 k ∧ v = .int .i64 m ∧ k ≤ n ∧ 0 ≤ m ∧ Hid (upB m 65536 (l.drop k) = b)) (fun _ i => n - (intOf i).toNat)
 case atStart => exact ⟨0, 0, rfl, rfl, by omega, by omega, by rw [List.drop_zero]; exact HU.out⟩
 case round =>
  obtain ⟨k, m, rfl, rfl, hk, hm, HR⟩ := hrel
  by_cases hlt : k < n
  ·obtain ⟨bl, off, rfl, hbl, hcell⟩ := hr.open_ (by rw [i64s_length, HZ.out]; omega)
   have hc1 := hcell k _ (i64s_at (by rw [HZ.out]; exact hlt))
   have hd := drop_at (l := l) (k := k) (by rw [HZ.out]; exact hlt)
   clear hcell
   obtain ⟨y, hy⟩ : ∃ y, y = l[k]?.getD 0 := ⟨_, rfl⟩
   rw [← hy] at hc1 hd
   have hu := HR.out
   rw [hd, upB_cons] at hu
   have HY := Lib.hid hu
   clear hy hd hu
   have i0 : (0 : Int) ≤ (k : Int) := by omega
   have i1 : (k : Int) < (n : Int) := by omega
   by_cases h1 : y ≤ m
   ·have HB2 : Hid (b = false) := by
     show b = false
     rw [← HY.out, Bool.and_eq_false_iff]
     exact .inl (by simp; omega)
    go_wp2_with fail
    go_ret
    exact ⟨ret_bool HB2.out.symm, rfl⟩
   ·by_cases h2 : 65536 < y
    ·have HB2 : Hid (b = false) := by
      show b = false
      rw [← HY.out, Bool.and_eq_false_iff]
      exact .inl (by simp; omega)
     go_wp2_with fail
     refine (isDigest_is false y (by unfold digB; rw [decide_eq_false_iff_not]; omega) _).mono ?_
     rintro e w' ⟨rfl, rfl⟩
     go_wp2_with fail
     go_ret
     exact ⟨ret_bool HB2.out.symm, rfl⟩
    ·have HN : Hid (upB y 65536 (l.drop (k + 1)) = b) := by
      show upB y 65536 (l.drop (k + 1)) = b
      have h3 := HY.out
      have h4 : decide (m < y ∧ y ≤ 65536) = true := by simp; omega
      rw [h4, Bool.true_and] at h3
      exact h3
     go_wp2_with fail
     refine (isDigest_is true y (by unfold digB; rw [decide_eq_true_eq]; omega) _).mono ?_
     rintro e w' ⟨rfl, rfl⟩
     go_wp2_with fail
     go_round
     case rel => exact ⟨k + 1, y, by go_num, rfl, by omega, by omega, HN⟩
     case measure => simp [intOf]; omega
  ·have HB2 : Hid (b = true) := by
    show b = true
    rw [← HR.out, List.drop_eq_nil_of_le (by rw [HZ.out]; omega)]
    rfl
   have i1 : ¬ ((k : Int) < (n : Int)) := by omega
   go_wp2_with fail
   go_ret
   exact ⟨ret_bool HB2.out.symm, rfl⟩

/-! ### nothing beside -/
def noHB (a r : Int) (nB nP : Nat) : Bool := decide (a = 0 ∧ r = 0 ∧ nB = 0 ∧ nP = 0)
set_option maxHeartbeats 1000000 in
theorem isNoHeader_is (b : Bool) (a r : Int) (AB : Option Addr) (cB nB : Nat) (AP : Option Addr) (cP nP : Nat) (w : World) (h : noHB a r nB nP = b) :
  Calls Tryz.prog 162 #[.agg #[.int .i64 a, .int .i64 r, .slice AB nB cB, .slice AP nP cP]] w (Tells w.heap.size w (.bool b)) := by
 have hbel := (Below.refl w.heap.size w).alloc (Nat.le_refl _) (.cells #[.int .i64 a, .int .i64 r, .slice AB nB cB, .slice AP nP cP] 44)
 have HB := Lib.hid h
 clear h
 by_cases h1 : a = 0
 ·subst h1
  by_cases h2 : r = 0
  ·subst h2
   by_cases h3 : nB = 0
   ·subst h3
    by_cases h4 : nP = 0
    ·subst h4
     have HN : Hid (b = true) := HB.out.symm.trans (by unfold noHB; simp)
     go_enter Tryz.func162, Tryz.ntmps162
     go_wp2_with fail
     go_ret
     exact ⟨ret_bool (by rw [HN.out]; try simp), hbel⟩
    ·have HN : Hid (b = false) := HB.out.symm.trans (by unfold noHB; simp [h4])
     have j : ((nP : Int) == 0) = false := by simp; omega
     clear h4
     go_enter Tryz.func162, Tryz.ntmps162
     go_wp2_with fail
     go_ret
     exact ⟨ret_bool (by rw [HN.out]; try simp [j]), hbel⟩
   ·have HN : Hid (b = false) := HB.out.symm.trans (by unfold noHB; simp [h3])
    have j : ((nB : Int) == 0) = false := by simp; omega
    clear h3
    go_enter Tryz.func162, Tryz.ntmps162
    go_wp2_with fail
    go_ret
    exact ⟨ret_bool (by rw [HN.out]; try simp [j]), hbel⟩
  ·have HN : Hid (b = false) := HB.out.symm.trans (by unfold noHB; simp [h2])
   have j : (r == 0) = false := by simp [h2]
   clear h2
   go_enter Tryz.func162, Tryz.ntmps162
   go_wp2_with fail
   go_ret
   exact ⟨ret_bool (by rw [HN.out]; try simp [j]), hbel⟩
 ·have HN : Hid (b = false) := HB.out.symm.trans (by unfold noHB; simp [h1])
  have j : (a == 0) = false := by simp [h1]
  clear h1
  go_enter Tryz.func162, Tryz.ntmps162
  go_wp2_with fail
  go_ret
  exact ⟨ret_bool (by rw [HN.out]; try simp [j]), hbel⟩

def bareB (m : MsgD) : Bool := decide ({ zeroM with k := m.k, f := m.f, t := m.t } = m)
theorem bare_iff {m : MsgD} : bareB m = true ↔ m.d = 0 ∧ m.D = [] ∧ (m.ba = 0 ∧ m.bn = 0 ∧ m.L = []) ∧ (m.cd = 0 ∧ m.cS = []) ∧ (m.ha = 0 ∧ m.hr = 0 ∧ m.hB = [] ∧ m.hP = []) ∧ (m.ca = 0 ∧ m.cr = 0 ∧ m.cB = [] ∧ m.cP = []) := by
 obtain ⟨k, f, t, d, ba, bn, L, ha, hr, hB, hP, ca, cr, cB, cP, cd, cS, D⟩ := m
 unfold bareB zeroM
 simp only [decide_eq_true_eq, MsgD.mk.injEq, true_and]
 constructor
 ·rintro ⟨rfl, rfl, rfl, rfl, rfl, rfl, rfl, rfl, rfl, rfl, rfl, rfl, rfl, rfl, rfl⟩; simp
 ·rintro ⟨rfl, rfl, ⟨rfl, rfl, rfl⟩, ⟨rfl, rfl⟩, ⟨rfl, rfl, rfl, rfl⟩, ⟨rfl, rfl, rfl, rfl⟩⟩; simp

set_option maxRecDepth 100000 in
set_option maxHeartbeats 4000000 in
theorem isBare_is (b : Bool) (m : MsgD) (a : MsgA) (w : World) (h : bareB m = b) (hi : MsgIn w m a) :
  Calls Tryz.prog 152 #[msgV m a] w (Tells w.heap.size w (.bool b)) := by
 obtain ⟨w1, hw1⟩ : ∃ w1, w1 = w.alloc (.cells #[.int .i64 m.k, .int .i64 m.f, .int .i64 m.t, .int .i64 m.d, .int .i64 m.ba, .int .i64 m.bn, .slice a.AL a.nL a.cL, .int .i64 m.ha, .int .i64 m.hr, .slice a.AhB a.nhB a.chB, .slice a.AhP a.nhP a.chP, .int .i64 m.ca, .int .i64 m.cr, .slice a.AcB a.ncB a.ccB, .slice a.AcP a.ncP a.ccP, .int .i64 m.cd, .slice a.AcS a.ncS a.ccS, .slice a.AD a.nD a.cD] 48) := ⟨_, rfl⟩
 have hb1 : Below w.heap.size w w1 := by rw [hw1]; exact (Below.refl _ _).alloc (Nat.le_refl _) _
 have bx1 : Box w1 w.heap.size (msgC m a) := by
  rw [hw1]
  exact box_new w (msgC m a) 48
 have HW := Lib.hid hw1
 have HX : Hid (∀ wX, Below w1.heap.size w1 wX → Box wX w.heap.size (msgC m a)) := fun wX h => bx1.below h bx1.1
 have HB := Lib.hid h
 have HF : Hid (bareB m = true ↔ m.d = 0 ∧ a.nD = 0 ∧ (m.ba = 0 ∧ m.bn = 0 ∧ a.nL = 0) ∧ (m.cd = 0 ∧ a.ncS = 0) ∧ noHB m.ha m.hr a.nhB a.nhP = true ∧ noHB m.ca m.cr a.ncB a.ncP = true) := by
  have z : ∀ {α : Type} {l : List α} {n : Nat}, l.length = n → (l = [] ↔ n = 0) := fun {α l n} h => by rw [← h, List.length_eq_zero_iff]
  show bareB m = true ↔ _
  rw [bare_iff, z hi.zD, z hi.zL, z hi.zcS, z hi.zhB, z hi.zhP, z hi.zcB, z hi.zcP]
  unfold noHB
  simp only [decide_eq_true_eq]
 clear hw1 h hi bx1
 unfold msgV
 go_enter Tryz.func152, Tryz.ntmps152
 go_upto_region 1 with fail
 rw [← HW.out]
 have HV : Hid (¬ (m.d = 0 ∧ a.nD = 0 ∧ (m.ba = 0 ∧ m.bn = 0 ∧ a.nL = 0) ∧ (m.cd = 0 ∧ a.ncS = 0) ∧ noHB m.ha m.hr a.nhB a.nhP = true ∧ noHB m.ca m.cr a.ncB a.ncP = true) → b = false) := by
  intro hn
  rw [← HB.out]
  cases hb : bareB m with
  | false => rfl
  | true => exact absurd (HF.out.1 hb) hn
 have x3 := ((HX.out _ (Below.refl _ _)).2 3 _ rfl).1
 have x17 := ((HX.out _ (Below.refl _ _)).2 17 _ rfl).1
 have x4 := ((HX.out _ (Below.refl _ _)).2 4 _ rfl).1
 have x5 := ((HX.out _ (Below.refl _ _)).2 5 _ rfl).1
 have x6 := ((HX.out _ (Below.refl _ _)).2 6 _ rfl).1
 have x15 := ((HX.out _ (Below.refl _ _)).2 15 _ rfl).1
 have x16 := ((HX.out _ (Below.refl _ _)).2 16 _ rfl).1
 by_cases g0 : ¬ (m.d = 0)
 ·have HN : Hid (b = false) := HV.out (fun h => g0 (by simp [h]))
  go_wp2_with fail
  go_ret
  exact ⟨ret_bool HN.out.symm, hb1⟩
 have g0 : m.d = 0 := Decidable.byContradiction fun h => g0 h
 have G0 := Lib.hid g0
 by_cases g1 : ¬ (a.nD = 0)
 ·have HN : Hid (b = false) := HV.out (fun h => g1 (by simp [h]))
  have j : 0 < a.nD := by omega
  clear g1
  go_wp2_with fail
  go_ret
  exact ⟨ret_bool HN.out.symm, hb1⟩
 have g1 : a.nD = 0 := Decidable.byContradiction fun h => g1 h
 have G1 := Lib.hid g1
 have j1 : ¬ (0 < a.nD) := by omega
 clear g1
 by_cases g2 : ¬ (m.ba = 0)
 ·have HN : Hid (b = false) := HV.out (fun h => g2 (by simp [h]))
  go_wp2_with fail
  go_ret
  exact ⟨ret_bool HN.out.symm, hb1⟩
 have g2 : m.ba = 0 := Decidable.byContradiction fun h => g2 h
 have G2 := Lib.hid g2
 by_cases g3 : ¬ (m.bn = 0)
 ·have HN : Hid (b = false) := HV.out (fun h => g3 (by simp [h]))
  go_wp2_with fail
  go_ret
  exact ⟨ret_bool HN.out.symm, hb1⟩
 have g3 : m.bn = 0 := Decidable.byContradiction fun h => g3 h
 have G3 := Lib.hid g3
 by_cases g4 : ¬ (a.nL = 0)
 ·have HN : Hid (b = false) := HV.out (fun h => g4 (by simp [h]))
  have j : 0 < a.nL := by omega
  clear g4
  go_wp2_with fail
  go_ret
  exact ⟨ret_bool HN.out.symm, hb1⟩
 have g4 : a.nL = 0 := Decidable.byContradiction fun h => g4 h
 have G4 := Lib.hid g4
 have j4 : ¬ (0 < a.nL) := by omega
 clear g4
 by_cases g5 : ¬ (m.cd = 0)
 ·have HN : Hid (b = false) := HV.out (fun h => g5 (by simp [h]))
  go_wp2_with fail
  go_ret
  exact ⟨ret_bool HN.out.symm, hb1⟩
 have g5 : m.cd = 0 := Decidable.byContradiction fun h => g5 h
 have G5 := Lib.hid g5
 by_cases g6 : ¬ (a.ncS = 0)
 ·have HN : Hid (b = false) := HV.out (fun h => g6 (by simp [h]))
  have j : 0 < a.ncS := by omega
  clear g6
  go_wp2_with fail
  go_ret
  exact ⟨ret_bool HN.out.symm, hb1⟩
 have g6 : a.ncS = 0 := Decidable.byContradiction fun h => g6 h
 have G6 := Lib.hid g6
 have j6 : ¬ (0 < a.ncS) := by omega
 clear g6
 have x7 := ((HX.out _ (Below.refl _ _)).2 7 _ rfl).1
 have x8 := ((HX.out _ (Below.refl _ _)).2 8 _ rfl).1
 have x9 := ((HX.out _ (Below.refl _ _)).2 9 _ rfl).1
 have x10 := ((HX.out _ (Below.refl _ _)).2 10 _ rfl).1
 go_wp2_with fail
 refine (isNoHeader_is (noHB m.ha m.hr a.nhB a.nhP) m.ha m.hr a.AhB a.chB a.nhB a.AhP a.chP a.nhP _ rfl).mono ?_
 rintro e w2 ⟨rfl, hb2⟩
 have hb3 := hb1.trans (hb2.mono hb1.size)
 clear x3 x17 x4 x5 x6 x15 x16 x7 x8 x9 x10 g0 j1 g2 g3 j4 g5 j6
 cases hh : noHB m.ha m.hr a.nhB a.nhP with
 | false =>
  have HN : Hid (b = false) := HV.out (fun h => by rw [hh] at h; simp at h)
  clear hh
  go_wp2_with fail
  go_ret
  exact ⟨ret_bool HN.out.symm, hb3⟩
 | true =>
  have HH := Lib.hid hh
  clear hh
  have x11 := ((HX.out _ hb2).2 11 _ rfl).1
  have x12 := ((HX.out _ hb2).2 12 _ rfl).1
  have x13 := ((HX.out _ hb2).2 13 _ rfl).1
  have x14 := ((HX.out _ hb2).2 14 _ rfl).1
  go_wp2_with fail
  refine (isNoHeader_is (noHB m.ca m.cr a.ncB a.ncP) m.ca m.cr a.AcB a.ccB a.ncB a.AcP a.ccP a.ncP _ rfl).mono ?_
  rintro e w4 ⟨rfl, hb4⟩
  have hb5 := hb3.trans (hb4.mono hb3.size)
  have HN : Hid (b = noHB m.ca m.cr a.ncB a.ncP) := by
   show b = _
   rw [← HB.out, Bool.eq_iff_iff]
   rw [HF.out]
   exact ⟨fun h => h.2.2.2.2.2, fun h => ⟨G0.out, G1.out, ⟨G2.out, G3.out, G4.out⟩, ⟨G5.out, G6.out⟩, HH.out, h⟩⟩
  go_wp2_with fail
  go_ret
  exact ⟨ret_bool HN.out.symm, hb5⟩

theorem size_bat : (Tryz.prog.info? 42).map (·.size) = some 3 := by kernel_rfl
theorem size_hdr : (Tryz.prog.info? 44).map (·.size) = some 4 := by kernel_rfl
theorem size_cert : (Tryz.prog.info? 46).map (·.size) = some 6 := by kernel_rfl
theorem bcheck_is (b : Bool) (a N : Int) (A : Option Addr) (c n : Nat) (L : List TxD) (w : World) (h : batB a N L = b) (hz : L.length = n) (hr : Rd w A (txs L)) :
  Calls Tryz.prog 43 #[.agg #[.int .i64 a, .int .i64 N, .slice A n c]] w (Tells w.heap.size w (.int .i64 (okV b))) := by
 cases b with
 | true => exact bcheck_yes a N A c n L w h hz hr
 | false => exact bcheck_no a N A c n L w h hz hr
theorem MsgIn.hdr {w : World} {m : MsgD} {a : MsgA} (h : MsgIn w m a) (ho : MsgOk m) (hf : MsgFew 1000000 a) : HdrIn w a.AhB a.chB a.nhB m.hB a.AhP a.chP a.nhP m.hP :=
 ⟨⟨h.zhB, h.rhB, h.khB, h.xhB, ho.whB⟩, ⟨h.zhP, h.rhP, h.khP, h.xhP, ho.whP⟩, hf.shB, hf.shP⟩
theorem MsgIn.chdr {w : World} {m : MsgD} {a : MsgA} (h : MsgIn w m a) (ho : MsgOk m) (hf : MsgFew 1000000 a) : HdrIn w a.AcB a.ccB a.ncB m.cB a.AcP a.ccP a.ncP m.cP :=
 ⟨⟨h.zcB, h.rcB, h.kcB, h.xcB, ho.wcB⟩, ⟨h.zcP, h.rcP, h.kcP, h.xcP, ho.wcP⟩, hf.scB, hf.scP⟩
theorem MsgIn.sig {w : World} {m : MsgD} {a : MsgA} (h : MsgIn w m a) (ho : MsgOk m) : NumsIn w a.AcS a.ccS a.ncS m.cS := ⟨h.zcS, h.rcS, h.kcS, h.xcS, ho.wcS⟩

theorem MsgIn.off_b {w : World} {m : MsgD} {a : MsgA} (h : MsgIn w m a) : MsgIn w { m with d := 0, ba := 0, bn := 0, L := [] } { a with AL := none, nL := 0, cL := 0 } := ⟨rfl, Rd.nil _ _, Nat.le_refl _, Nat.zero_le _, h.zhB, h.rhB, h.khB, h.xhB, h.zhP, h.rhP, h.khP, h.xhP, h.zcB, h.rcB, h.kcB, h.xcB, h.zcP, h.rcP, h.kcP, h.xcP, h.zcS, h.rcS, h.kcS, h.xcS, h.zD, h.rD, h.kD, h.xD⟩
theorem off_b {m : MsgD} (h : m.k = 1 ∨ m.k = 3) : bareB { m with d := 0, ba := 0, bn := 0, L := [] } = decide (onlyM m = m) := by
 obtain ⟨k, f, t, d, ba, bn, L, ha, hr, hB, hP, ca, cr, cB, cP, cd, cS, D⟩ := m
 simp only at h
 have e : onlyM ⟨k, f, t, d, ba, bn, L, ha, hr, hB, hP, ca, cr, cB, cP, cd, cS, D⟩ = ⟨k, f, t, d, ba, bn, L, 0, 0, [], [], 0, 0, [], [], 0, [], []⟩ := by
  unfold onlyM zeroM
  rcases h with rfl | rfl <;> simp
 rw [e]
 unfold bareB zeroM
 rw [decide_eq_decide]
 simp only [MsgD.mk.injEq, true_and]
theorem MsgIn.off_d {w : World} {m : MsgD} {a : MsgA} (h : MsgIn w m a) : MsgIn w { m with d := 0 } a := ⟨h.zL, h.rL, h.kL, h.xL, h.zhB, h.rhB, h.khB, h.xhB, h.zhP, h.rhP, h.khP, h.xhP, h.zcB, h.rcB, h.kcB, h.xcB, h.zcP, h.rcP, h.kcP, h.xcP, h.zcS, h.rcS, h.kcS, h.xcS, h.zD, h.rD, h.kD, h.xD⟩
theorem off_d {m : MsgD} (h : m.k = 2 ∨ m.k = 5) : bareB { m with d := 0 } = decide (onlyM m = m) := by
 obtain ⟨k, f, t, d, ba, bn, L, ha, hr, hB, hP, ca, cr, cB, cP, cd, cS, D⟩ := m
 simp only at h
 have e : onlyM ⟨k, f, t, d, ba, bn, L, ha, hr, hB, hP, ca, cr, cB, cP, cd, cS, D⟩ = ⟨k, f, t, d, 0, 0, [], 0, 0, [], [], 0, 0, [], [], 0, [], []⟩ := by
  unfold onlyM zeroM
  rcases h with rfl | rfl <;> simp
 rw [e]
 unfold bareB zeroM
 rw [decide_eq_decide]
 simp only [MsgD.mk.injEq, true_and]
theorem MsgIn.off_h {w : World} {m : MsgD} {a : MsgA} (h : MsgIn w m a) : MsgIn w { m with d := 0, ha := 0, hr := 0, hB := [], hP := [] } { a with AhB := none, nhB := 0, chB := 0, AhP := none, nhP := 0, chP := 0 } := ⟨h.zL, h.rL, h.kL, h.xL, rfl, Rd.nil _ _, Nat.le_refl _, Nat.zero_le _, rfl, Rd.nil _ _, Nat.le_refl _, Nat.zero_le _, h.zcB, h.rcB, h.kcB, h.xcB, h.zcP, h.rcP, h.kcP, h.xcP, h.zcS, h.rcS, h.kcS, h.xcS, h.zD, h.rD, h.kD, h.xD⟩
theorem off_h {m : MsgD} (h : m.k = 4) : bareB { m with d := 0, ha := 0, hr := 0, hB := [], hP := [] } = decide (onlyM m = m) := by
 obtain ⟨k, f, t, d, ba, bn, L, ha, hr, hB, hP, ca, cr, cB, cP, cd, cS, D⟩ := m
 simp only at h
 have e : onlyM ⟨k, f, t, d, ba, bn, L, ha, hr, hB, hP, ca, cr, cB, cP, cd, cS, D⟩ = ⟨k, f, t, d, 0, 0, [], ha, hr, hB, hP, 0, 0, [], [], 0, [], []⟩ := by
  unfold onlyM zeroM
  rcases h with rfl <;> simp
 rw [e]
 unfold bareB zeroM
 rw [decide_eq_decide]
 simp only [MsgD.mk.injEq, true_and]
theorem MsgIn.off_c {w : World} {m : MsgD} {a : MsgA} (h : MsgIn w m a) : MsgIn w { m with ca := 0, cr := 0, cB := [], cP := [], cd := 0, cS := [] } { a with AcB := none, ncB := 0, ccB := 0, AcP := none, ncP := 0, ccP := 0, AcS := none, ncS := 0, ccS := 0 } := ⟨h.zL, h.rL, h.kL, h.xL, h.zhB, h.rhB, h.khB, h.xhB, h.zhP, h.rhP, h.khP, h.xhP, rfl, Rd.nil _ _, Nat.le_refl _, Nat.zero_le _, rfl, Rd.nil _ _, Nat.le_refl _, Nat.zero_le _, rfl, Rd.nil _ _, Nat.le_refl _, Nat.zero_le _, h.zD, h.rD, h.kD, h.xD⟩
theorem off_c {m : MsgD} (h : m.k = 6) : bareB { m with ca := 0, cr := 0, cB := [], cP := [], cd := 0, cS := [] } = decide (onlyM m = m) := by
 obtain ⟨k, f, t, d, ba, bn, L, ha, hr, hB, hP, ca, cr, cB, cP, cd, cS, D⟩ := m
 simp only at h
 have e : onlyM ⟨k, f, t, d, ba, bn, L, ha, hr, hB, hP, ca, cr, cB, cP, cd, cS, D⟩ = ⟨k, f, t, 0, 0, 0, [], 0, 0, [], [], ca, cr, cB, cP, cd, cS, []⟩ := by
  unfold onlyM zeroM
  rcases h with rfl <;> simp
 rw [e]
 unfold bareB zeroM
 rw [decide_eq_decide]
 simp only [MsgD.mk.injEq, true_and]
theorem MsgIn.off_w {w : World} {m : MsgD} {a : MsgA} (h : MsgIn w m a) : MsgIn w { m with D := [] } { a with AD := none, nD := 0, cD := 0 } := ⟨h.zL, h.rL, h.kL, h.xL, h.zhB, h.rhB, h.khB, h.xhB, h.zhP, h.rhP, h.khP, h.xhP, h.zcB, h.rcB, h.kcB, h.xcB, h.zcP, h.rcP, h.kcP, h.xcP, h.zcS, h.rcS, h.kcS, h.xcS, rfl, Rd.nil _ _, Nat.le_refl _, Nat.zero_le _⟩
theorem off_w {m : MsgD} (h : m.k = 7 ∨ m.k = 8) : bareB { m with D := [] } = decide (onlyM m = m) := by
 obtain ⟨k, f, t, d, ba, bn, L, ha, hr, hB, hP, ca, cr, cB, cP, cd, cS, D⟩ := m
 simp only at h
 have e : onlyM ⟨k, f, t, d, ba, bn, L, ha, hr, hB, hP, ca, cr, cB, cP, cd, cS, D⟩ = ⟨k, f, t, 0, 0, 0, [], 0, 0, [], [], 0, 0, [], [], 0, [], D⟩ := by
  unfold onlyM zeroM
  rcases h with rfl | rfl <;> simp
 rw [e]
 unfold bareB zeroM
 rw [decide_eq_decide]
 simp only [MsgD.mk.injEq, true_and, and_true]

/-! ### hasForm -/
def hasB (m : MsgD) (n : Int) : Bool := formB m n && decide (onlyM m = m)

set_option maxRecDepth 100000 in
set_option maxHeartbeats 16000000 in
theorem hasForm_is (b : Bool) (m : MsgD) (a : MsgA) (n : Int) (w : World) (h : hasB m n = b) (hi : MsgIn w m a) (ho : MsgOk m) (hf : MsgFew 1000000 a) :
  Calls Tryz.prog 137 #[msgV m a, .int .i64 n] w (Tells w.heap.size w (.bool b)) := by
 obtain ⟨w1, hw1⟩ : ∃ w1, w1 = w.alloc (.cells #[.int .i64 m.k, .int .i64 m.f, .int .i64 m.t, .int .i64 m.d, .int .i64 m.ba, .int .i64 m.bn, .slice a.AL a.nL a.cL, .int .i64 m.ha, .int .i64 m.hr, .slice a.AhB a.nhB a.chB, .slice a.AhP a.nhP a.chP, .int .i64 m.ca, .int .i64 m.cr, .slice a.AcB a.ncB a.ccB, .slice a.AcP a.ncP a.ccP, .int .i64 m.cd, .slice a.AcS a.ncS a.ccS, .slice a.AD a.nD a.cD] 48) := ⟨_, rfl⟩
 have hb1 : Below w.heap.size w w1 := by rw [hw1]; exact (Below.refl _ _).alloc (Nat.le_refl _) _
 have hs1 : w1.heap.size = w.heap.size + 1 := by rw [hw1]; simp
 have bx1 : Box w1 w.heap.size (msgC m a) := by
  rw [hw1]
  exact box_new w (msgC m a) 48
 have HW := Lib.hid hw1
 have HS1 := Lib.hid hs1
 have HX : Hid (∀ wX, Below w1.heap.size w1 wX → Box wX w.heap.size (msgC m a)) := fun wX h => bx1.below h bx1.1
 have HI : Hid (∀ wX, Below w.heap.size w wX → MsgIn wX m a) := fun wX h => hi.below h
 have HO := Lib.hid ho
 have HF := Lib.hid hf
 have HE : Hid (hasB m n = b) := h
 have x0 := (bx1.2 0 _ rfl).1
 clear hw1 bx1 hi ho hf h hs1
 unfold msgV
 go_enter Tryz.func137, Tryz.ntmps137
 go_upto_region 1 with fail
 rw [← HW.out]
 go_upto_region 3 with fail
 clear x0
 by_cases hk : m.k = 1
 ·have e1 : (m.k == 1) = true := by simp [hk]
  have e3 : (m.k == 3) = false := by simp [hk]
  have e2 : (m.k == 2) = false := by simp [hk]
  have e5 : (m.k == 5) = false := by simp [hk]
  have e4 : (m.k == 4) = false := by simp [hk]
  have e6 : (m.k == 6) = false := by simp [hk]
  have e7 : (m.k == 7) = false := by simp [hk]
  have e8 : (m.k == 8) = false := by simp [hk]
  have HFM : Hid (formB m n = (digB m.d && (batB m.ba m.bn m.L && decide (m.ba ≤ n)))) := by show formB m n = _; unfold formB; simp [hk]
  have HK : Hid (m.k = 1 ∨ m.k = 3) := by show m.k = 1 ∨ m.k = 3; omega
  clear hk
  have xd := ((HX.out _ (Below.refl _ _)).2 3 _ rfl).1
  go_wp2_with fail
  refine (isDigest_is (digB m.d) m.d rfl _).mono ?_
  rintro e w' ⟨rfl, rfl⟩
  cases hd : digB m.d with
  | false =>
   have HN : Hid (b = false) := by show b = false; rw [← HE.out, hasB, HFM.out]; simp [hd]
   go_wp2_with fail
   go_ret
   exact ⟨ret_bool HN.out.symm, hb1⟩
  | true =>
   have HD := Lib.hid hd
   clear hd xd
   have x4 := ((HX.out _ (Below.refl _ _)).2 4 _ rfl).1
   have x5 := ((HX.out _ (Below.refl _ _)).2 5 _ rfl).1
   have x6 := ((HX.out _ (Below.refl _ _)).2 6 _ rfl).1
   go_wp2_with fail
   have qi := HI.out _ hb1
   refine (bcheck_is (batB m.ba m.bn m.L) m.ba m.bn a.AL a.cL a.nL m.L _ rfl qi.zL qi.rL).mono ?_
   rintro e w2 ⟨rfl, hb2⟩
   have hb3 := hb1.trans (hb2.mono hb1.size)
   clear qi x4 x5 x6
   cases hd : batB m.ba m.bn m.L with
   | false =>
    have ev : okV false = 1 := rfl
    have HN : Hid (b = false) := by show b = false; rw [← HE.out, hasB, HFM.out]; simp [hd]
    go_wp2_with fail
    go_ret
    exact ⟨ret_bool HN.out.symm, hb3⟩
   | true =>
    have ev : okV true = 0 := rfl
    have HBT := Lib.hid hd
    clear hd
    have x4 := ((HX.out _ hb2).2 4 _ rfl).1
    by_cases hn : n < m.ba
    ·have hnn : ¬ (m.ba ≤ n) := by omega
     have HN : Hid (b = false) := by show b = false; rw [← HE.out, hasB, HFM.out]; simp [hnn]
     go_wp2_with fail
     go_ret
     exact ⟨ret_bool HN.out.symm, hb3⟩
    have HFO : Hid (formB m n = true) := by show formB m n = true; rw [HFM.out, HD.out, HBT.out, decide_eq_true (by omega : m.ba ≤ n)]; rfl
    go_upto_region 7 with fail
    clear x4 hn ev
    have bxa := HX.out _ hb2
    have HBA := Lib.hid bxa
    have xa3 := (bxa.2 3 _ rfl).1
    have xf3 := (bxa.2 3 _ rfl).2
    clear bxa
    have bxm : Box (w2.setCell ⟨w.heap.size, 3, none⟩ (.int .i64 0)) w.heap.size [.int .i64 m.k, .int .i64 m.f, .int .i64 m.t, .int .i64 0, .int .i64 m.ba, .int .i64 m.bn, .slice a.AL a.nL a.cL, .int .i64 m.ha, .int .i64 m.hr, .slice a.AhB a.nhB a.chB, .slice a.AhP a.nhP a.chP, .int .i64 m.ca, .int .i64 m.cr, .slice a.AcB a.ncB a.ccB, .slice a.AcP a.ncP a.ccP, .int .i64 m.cd, .slice a.AcS a.ncS a.ccS, .slice a.AD a.nD a.cD] := HBA.out.set (j := 3) (by simp [msgC])
    have hbm : Below w.heap.size w (w2.setCell ⟨w.heap.size, 3, none⟩ (.int .i64 0)) := hb3.setCell (Nat.le_refl _) _
    have HBM := Lib.hid bxm
    clear bxm
    go_wp2_with (refine wpList_store_box rfl 42 _ _ rfl w.heap.size 4 [.int .i64 0, .int .i64 0, .slice none 0 0] [.int .i64 m.k, .int .i64 m.f, .int .i64 m.t, .int .i64 0, .int .i64 m.ba, .int .i64 m.bn, .slice a.AL a.nL a.cL, .int .i64 m.ha, .int .i64 m.hr, .slice a.AhB a.nhB a.chB, .slice a.AhP a.nhP a.chP, .int .i64 m.ca, .int .i64 m.cr, .slice a.AcB a.ncB a.ccB, .slice a.AcP a.ncP a.ccP, .int .i64 m.cd, .slice a.AcS a.ncS a.ccS, .slice a.AD a.nD a.cD] [.int .i64 m.k, .int .i64 m.f, .int .i64 m.t, .int .i64 0, .int .i64 0, .int .i64 0, .slice none 0 0, .int .i64 m.ha, .int .i64 m.hr, .slice a.AhB a.nhB a.chB, .slice a.AhP a.nhP a.chP, .int .i64 m.ca, .int .i64 m.cr, .slice a.AcB a.ncB a.ccB, .slice a.AcP a.ncP a.ccP, .int .i64 m.cd, .slice a.AcS a.ncS a.ccS, .slice a.AD a.nD a.cD] rfl rfl HBM.out (by simp) rfl size_bat rfl ?_)
    intro wz bxz Tz
    have tz := Tz (fun k => k = w.heap.size) rfl
    have hbz : Below w.heap.size w wz := hbm.trans (tz.below (fun k hk => by rw [hk]; exact Nat.le_refl _) (hbm).size)
    have HBZ := Lib.hid bxz
    clear bxz tz Tz xa3 xf3
    go_wp2_with (refine wpList_load_box rfl 48 _ rfl w.heap.size rfl [.int .i64 m.k, .int .i64 m.f, .int .i64 m.t, .int .i64 0, .int .i64 0, .int .i64 0, .slice none 0 0, .int .i64 m.ha, .int .i64 m.hr, .slice a.AhB a.nhB a.chB, .slice a.AhP a.nhP a.chP, .int .i64 m.ca, .int .i64 m.cr, .slice a.AcB a.ncB a.ccB, .slice a.AcP a.ncP a.ccP, .int .i64 m.cd, .slice a.AcS a.ncS a.ccS, .slice a.AD a.nD a.cD] HBZ.out _ Tryz.underlying48 rfl size_mes ?_)
    refine (isBare_is (bareB { m with d := 0, ba := 0, bn := 0, L := [] }) { m with d := 0, ba := 0, bn := 0, L := [] } { a with AL := none, nL := 0, cL := 0 } _ rfl (HI.out _ hbz).off_b).mono ?_
    rintro e wb ⟨rfl, hbb⟩
    have HN : Hid (b = bareB { m with d := 0, ba := 0, bn := 0, L := [] }) := by
     show b = _
     rw [← HE.out, hasB, HFO.out, off_b HK.out]
     simp only [Bool.true_and]
    go_wp2_with fail
    go_ret
    exact ⟨ret_bool HN.out.symm, hbz.trans (hbb.mono hbz.size)⟩
 have n1 := Lib.hid hk
 have e1 : (m.k == 1) = false := by simp [hk]
 clear hk
 by_cases hk : m.k = 3
 ·have e1 : (m.k == 1) = false := by simp [hk]
  have e3 : (m.k == 3) = true := by simp [hk]
  have e2 : (m.k == 2) = false := by simp [hk]
  have e5 : (m.k == 5) = false := by simp [hk]
  have e4 : (m.k == 4) = false := by simp [hk]
  have e6 : (m.k == 6) = false := by simp [hk]
  have e7 : (m.k == 7) = false := by simp [hk]
  have e8 : (m.k == 8) = false := by simp [hk]
  have HFM : Hid (formB m n = (digB m.d && (batB m.ba m.bn m.L && decide (m.ba ≤ n)))) := by show formB m n = _; unfold formB; simp [hk]
  have HK : Hid (m.k = 1 ∨ m.k = 3) := by show m.k = 1 ∨ m.k = 3; omega
  clear hk
  have xd := ((HX.out _ (Below.refl _ _)).2 3 _ rfl).1
  go_wp2_with fail
  refine (isDigest_is (digB m.d) m.d rfl _).mono ?_
  rintro e w' ⟨rfl, rfl⟩
  cases hd : digB m.d with
  | false =>
   have HN : Hid (b = false) := by show b = false; rw [← HE.out, hasB, HFM.out]; simp [hd]
   go_wp2_with fail
   go_ret
   exact ⟨ret_bool HN.out.symm, hb1⟩
  | true =>
   have HD := Lib.hid hd
   clear hd xd
   have x4 := ((HX.out _ (Below.refl _ _)).2 4 _ rfl).1
   have x5 := ((HX.out _ (Below.refl _ _)).2 5 _ rfl).1
   have x6 := ((HX.out _ (Below.refl _ _)).2 6 _ rfl).1
   go_wp2_with fail
   have qi := HI.out _ hb1
   refine (bcheck_is (batB m.ba m.bn m.L) m.ba m.bn a.AL a.cL a.nL m.L _ rfl qi.zL qi.rL).mono ?_
   rintro e w2 ⟨rfl, hb2⟩
   have hb3 := hb1.trans (hb2.mono hb1.size)
   clear qi x4 x5 x6
   cases hd : batB m.ba m.bn m.L with
   | false =>
    have ev : okV false = 1 := rfl
    have HN : Hid (b = false) := by show b = false; rw [← HE.out, hasB, HFM.out]; simp [hd]
    go_wp2_with fail
    go_ret
    exact ⟨ret_bool HN.out.symm, hb3⟩
   | true =>
    have ev : okV true = 0 := rfl
    have HBT := Lib.hid hd
    clear hd
    have x4 := ((HX.out _ hb2).2 4 _ rfl).1
    by_cases hn : n < m.ba
    ·have hnn : ¬ (m.ba ≤ n) := by omega
     have HN : Hid (b = false) := by show b = false; rw [← HE.out, hasB, HFM.out]; simp [hnn]
     go_wp2_with fail
     go_ret
     exact ⟨ret_bool HN.out.symm, hb3⟩
    have HFO : Hid (formB m n = true) := by show formB m n = true; rw [HFM.out, HD.out, HBT.out, decide_eq_true (by omega : m.ba ≤ n)]; rfl
    go_upto_region 7 with fail
    clear x4 hn ev
    have bxa := HX.out _ hb2
    have HBA := Lib.hid bxa
    have xa3 := (bxa.2 3 _ rfl).1
    have xf3 := (bxa.2 3 _ rfl).2
    clear bxa
    have bxm : Box (w2.setCell ⟨w.heap.size, 3, none⟩ (.int .i64 0)) w.heap.size [.int .i64 m.k, .int .i64 m.f, .int .i64 m.t, .int .i64 0, .int .i64 m.ba, .int .i64 m.bn, .slice a.AL a.nL a.cL, .int .i64 m.ha, .int .i64 m.hr, .slice a.AhB a.nhB a.chB, .slice a.AhP a.nhP a.chP, .int .i64 m.ca, .int .i64 m.cr, .slice a.AcB a.ncB a.ccB, .slice a.AcP a.ncP a.ccP, .int .i64 m.cd, .slice a.AcS a.ncS a.ccS, .slice a.AD a.nD a.cD] := HBA.out.set (j := 3) (by simp [msgC])
    have hbm : Below w.heap.size w (w2.setCell ⟨w.heap.size, 3, none⟩ (.int .i64 0)) := hb3.setCell (Nat.le_refl _) _
    have HBM := Lib.hid bxm
    clear bxm
    go_wp2_with (refine wpList_store_box rfl 42 _ _ rfl w.heap.size 4 [.int .i64 0, .int .i64 0, .slice none 0 0] [.int .i64 m.k, .int .i64 m.f, .int .i64 m.t, .int .i64 0, .int .i64 m.ba, .int .i64 m.bn, .slice a.AL a.nL a.cL, .int .i64 m.ha, .int .i64 m.hr, .slice a.AhB a.nhB a.chB, .slice a.AhP a.nhP a.chP, .int .i64 m.ca, .int .i64 m.cr, .slice a.AcB a.ncB a.ccB, .slice a.AcP a.ncP a.ccP, .int .i64 m.cd, .slice a.AcS a.ncS a.ccS, .slice a.AD a.nD a.cD] [.int .i64 m.k, .int .i64 m.f, .int .i64 m.t, .int .i64 0, .int .i64 0, .int .i64 0, .slice none 0 0, .int .i64 m.ha, .int .i64 m.hr, .slice a.AhB a.nhB a.chB, .slice a.AhP a.nhP a.chP, .int .i64 m.ca, .int .i64 m.cr, .slice a.AcB a.ncB a.ccB, .slice a.AcP a.ncP a.ccP, .int .i64 m.cd, .slice a.AcS a.ncS a.ccS, .slice a.AD a.nD a.cD] rfl rfl HBM.out (by simp) rfl size_bat rfl ?_)
    intro wz bxz Tz
    have tz := Tz (fun k => k = w.heap.size) rfl
    have hbz : Below w.heap.size w wz := hbm.trans (tz.below (fun k hk => by rw [hk]; exact Nat.le_refl _) (hbm).size)
    have HBZ := Lib.hid bxz
    clear bxz tz Tz xa3 xf3
    go_wp2_with (refine wpList_load_box rfl 48 _ rfl w.heap.size rfl [.int .i64 m.k, .int .i64 m.f, .int .i64 m.t, .int .i64 0, .int .i64 0, .int .i64 0, .slice none 0 0, .int .i64 m.ha, .int .i64 m.hr, .slice a.AhB a.nhB a.chB, .slice a.AhP a.nhP a.chP, .int .i64 m.ca, .int .i64 m.cr, .slice a.AcB a.ncB a.ccB, .slice a.AcP a.ncP a.ccP, .int .i64 m.cd, .slice a.AcS a.ncS a.ccS, .slice a.AD a.nD a.cD] HBZ.out _ Tryz.underlying48 rfl size_mes ?_)
    refine (isBare_is (bareB { m with d := 0, ba := 0, bn := 0, L := [] }) { m with d := 0, ba := 0, bn := 0, L := [] } { a with AL := none, nL := 0, cL := 0 } _ rfl (HI.out _ hbz).off_b).mono ?_
    rintro e wb ⟨rfl, hbb⟩
    have HN : Hid (b = bareB { m with d := 0, ba := 0, bn := 0, L := [] }) := by
     show b = _
     rw [← HE.out, hasB, HFO.out, off_b HK.out]
     simp only [Bool.true_and]
    go_wp2_with fail
    go_ret
    exact ⟨ret_bool HN.out.symm, hbz.trans (hbb.mono hbz.size)⟩
 have n3 := Lib.hid hk
 have e3 : (m.k == 3) = false := by simp [hk]
 clear hk
 by_cases hk : m.k = 2
 ·have e1 : (m.k == 1) = false := by simp [hk]
  have e3 : (m.k == 3) = false := by simp [hk]
  have e2 : (m.k == 2) = true := by simp [hk]
  have e5 : (m.k == 5) = false := by simp [hk]
  have e4 : (m.k == 4) = false := by simp [hk]
  have e6 : (m.k == 6) = false := by simp [hk]
  have e7 : (m.k == 7) = false := by simp [hk]
  have e8 : (m.k == 8) = false := by simp [hk]
  have HFM : Hid (formB m n = (digB m.d)) := by show formB m n = _; unfold formB; simp [hk]
  have HK : Hid (m.k = 2 ∨ m.k = 5) := by show m.k = 2 ∨ m.k = 5; omega
  clear hk
  have xd := ((HX.out _ (Below.refl _ _)).2 3 _ rfl).1
  go_wp2_with fail
  refine (isDigest_is (digB m.d) m.d rfl _).mono ?_
  rintro e w' ⟨rfl, rfl⟩
  cases hd : digB m.d with
  | false =>
   have HN : Hid (b = false) := by show b = false; rw [← HE.out, hasB, HFM.out]; simp [hd]
   go_wp2_with fail
   go_ret
   exact ⟨ret_bool HN.out.symm, hb1⟩
  | true =>
   have HD := Lib.hid hd
   clear hd xd
   have HFO : Hid (formB m n = true) := HFM.out.trans HD.out
   have bxa := HX.out _ (Below.refl _ _)
   have HBA := Lib.hid bxa
   have xa3 := (bxa.2 3 _ rfl).1
   have xf3 := (bxa.2 3 _ rfl).2
   clear bxa
   have bxz : Box (w1.setCell ⟨w.heap.size, 3, none⟩ (.int .i64 0)) w.heap.size [.int .i64 m.k, .int .i64 m.f, .int .i64 m.t, .int .i64 0, .int .i64 m.ba, .int .i64 m.bn, .slice a.AL a.nL a.cL, .int .i64 m.ha, .int .i64 m.hr, .slice a.AhB a.nhB a.chB, .slice a.AhP a.nhP a.chP, .int .i64 m.ca, .int .i64 m.cr, .slice a.AcB a.ncB a.ccB, .slice a.AcP a.ncP a.ccP, .int .i64 m.cd, .slice a.AcS a.ncS a.ccS, .slice a.AD a.nD a.cD] := HBA.out.set (j := 3) (by simp [msgC])
   have hbz : Below w.heap.size w (w1.setCell ⟨w.heap.size, 3, none⟩ (.int .i64 0)) := hb1.setCell (Nat.le_refl _) _
   have HBZ := Lib.hid bxz
   clear bxz
   go_wp2_with (refine wpList_load_box rfl 48 _ rfl w.heap.size rfl [.int .i64 m.k, .int .i64 m.f, .int .i64 m.t, .int .i64 0, .int .i64 m.ba, .int .i64 m.bn, .slice a.AL a.nL a.cL, .int .i64 m.ha, .int .i64 m.hr, .slice a.AhB a.nhB a.chB, .slice a.AhP a.nhP a.chP, .int .i64 m.ca, .int .i64 m.cr, .slice a.AcB a.ncB a.ccB, .slice a.AcP a.ncP a.ccP, .int .i64 m.cd, .slice a.AcS a.ncS a.ccS, .slice a.AD a.nD a.cD] HBZ.out _ Tryz.underlying48 rfl size_mes ?_)
   clear xa3 xf3
   refine (isBare_is (bareB { m with d := 0 }) { m with d := 0 } a _ rfl (HI.out _ hbz).off_d).mono ?_
   rintro e wb ⟨rfl, hbb⟩
   have HN : Hid (b = bareB { m with d := 0 }) := by
    show b = _
    rw [← HE.out, hasB, HFO.out, off_d HK.out]
    simp only [Bool.true_and]
   go_wp2_with fail
   go_ret
   exact ⟨ret_bool HN.out.symm, hbz.trans (hbb.mono hbz.size)⟩
 have n2 := Lib.hid hk
 have e2 : (m.k == 2) = false := by simp [hk]
 clear hk
 by_cases hk : m.k = 5
 ·have e1 : (m.k == 1) = false := by simp [hk]
  have e3 : (m.k == 3) = false := by simp [hk]
  have e2 : (m.k == 2) = false := by simp [hk]
  have e5 : (m.k == 5) = true := by simp [hk]
  have e4 : (m.k == 4) = false := by simp [hk]
  have e6 : (m.k == 6) = false := by simp [hk]
  have e7 : (m.k == 7) = false := by simp [hk]
  have e8 : (m.k == 8) = false := by simp [hk]
  have HFM : Hid (formB m n = (digB m.d)) := by show formB m n = _; unfold formB; simp [hk]
  have HK : Hid (m.k = 2 ∨ m.k = 5) := by show m.k = 2 ∨ m.k = 5; omega
  clear hk
  have xd := ((HX.out _ (Below.refl _ _)).2 3 _ rfl).1
  go_wp2_with fail
  refine (isDigest_is (digB m.d) m.d rfl _).mono ?_
  rintro e w' ⟨rfl, rfl⟩
  cases hd : digB m.d with
  | false =>
   have HN : Hid (b = false) := by show b = false; rw [← HE.out, hasB, HFM.out]; simp [hd]
   go_wp2_with fail
   go_ret
   exact ⟨ret_bool HN.out.symm, hb1⟩
  | true =>
   have HD := Lib.hid hd
   clear hd xd
   have HFO : Hid (formB m n = true) := HFM.out.trans HD.out
   have bxa := HX.out _ (Below.refl _ _)
   have HBA := Lib.hid bxa
   have xa3 := (bxa.2 3 _ rfl).1
   have xf3 := (bxa.2 3 _ rfl).2
   clear bxa
   have bxz : Box (w1.setCell ⟨w.heap.size, 3, none⟩ (.int .i64 0)) w.heap.size [.int .i64 m.k, .int .i64 m.f, .int .i64 m.t, .int .i64 0, .int .i64 m.ba, .int .i64 m.bn, .slice a.AL a.nL a.cL, .int .i64 m.ha, .int .i64 m.hr, .slice a.AhB a.nhB a.chB, .slice a.AhP a.nhP a.chP, .int .i64 m.ca, .int .i64 m.cr, .slice a.AcB a.ncB a.ccB, .slice a.AcP a.ncP a.ccP, .int .i64 m.cd, .slice a.AcS a.ncS a.ccS, .slice a.AD a.nD a.cD] := HBA.out.set (j := 3) (by simp [msgC])
   have hbz : Below w.heap.size w (w1.setCell ⟨w.heap.size, 3, none⟩ (.int .i64 0)) := hb1.setCell (Nat.le_refl _) _
   have HBZ := Lib.hid bxz
   clear bxz
   go_wp2_with (refine wpList_load_box rfl 48 _ rfl w.heap.size rfl [.int .i64 m.k, .int .i64 m.f, .int .i64 m.t, .int .i64 0, .int .i64 m.ba, .int .i64 m.bn, .slice a.AL a.nL a.cL, .int .i64 m.ha, .int .i64 m.hr, .slice a.AhB a.nhB a.chB, .slice a.AhP a.nhP a.chP, .int .i64 m.ca, .int .i64 m.cr, .slice a.AcB a.ncB a.ccB, .slice a.AcP a.ncP a.ccP, .int .i64 m.cd, .slice a.AcS a.ncS a.ccS, .slice a.AD a.nD a.cD] HBZ.out _ Tryz.underlying48 rfl size_mes ?_)
   clear xa3 xf3
   refine (isBare_is (bareB { m with d := 0 }) { m with d := 0 } a _ rfl (HI.out _ hbz).off_d).mono ?_
   rintro e wb ⟨rfl, hbb⟩
   have HN : Hid (b = bareB { m with d := 0 }) := by
    show b = _
    rw [← HE.out, hasB, HFO.out, off_d HK.out]
    simp only [Bool.true_and]
   go_wp2_with fail
   go_ret
   exact ⟨ret_bool HN.out.symm, hbz.trans (hbb.mono hbz.size)⟩
 have n5 := Lib.hid hk
 have e5 : (m.k == 5) = false := by simp [hk]
 clear hk
 by_cases hk : m.k = 4
 ·have e1 : (m.k == 1) = false := by simp [hk]
  have e3 : (m.k == 3) = false := by simp [hk]
  have e2 : (m.k == 2) = false := by simp [hk]
  have e5 : (m.k == 5) = false := by simp [hk]
  have e4 : (m.k == 4) = true := by simp [hk]
  have e6 : (m.k == 6) = false := by simp [hk]
  have e7 : (m.k == 7) = false := by simp [hk]
  have e8 : (m.k == 8) = false := by simp [hk]
  have HFM : Hid (formB m n = (digB m.d && (hdrB m.ha m.hr m.hB m.hP n && decide (m.ha = m.f)))) := by show formB m n = _; unfold formB; simp [hk]
  have HK : Hid (m.k = 4) := by show m.k = 4; omega
  clear hk
  have xd := ((HX.out _ (Below.refl _ _)).2 3 _ rfl).1
  go_wp2_with fail
  refine (isDigest_is (digB m.d) m.d rfl _).mono ?_
  rintro e w' ⟨rfl, rfl⟩
  cases hd : digB m.d with
  | false =>
   have HN : Hid (b = false) := by show b = false; rw [← HE.out, hasB, HFM.out]; simp [hd]
   go_wp2_with fail
   go_ret
   exact ⟨ret_bool HN.out.symm, hb1⟩
  | true =>
   have HD := Lib.hid hd
   clear hd xd
   have x7 := ((HX.out _ (Below.refl _ _)).2 7 _ rfl).1
   have x8 := ((HX.out _ (Below.refl _ _)).2 8 _ rfl).1
   have x9 := ((HX.out _ (Below.refl _ _)).2 9 _ rfl).1
   have x10 := ((HX.out _ (Below.refl _ _)).2 10 _ rfl).1
   go_wp2_with fail
   have qi := (HI.out _ hb1).hdr HO.out HF.out
   refine (hcheck_is (hdrB m.ha m.hr m.hB m.hP n) m.ha m.hr a.AhB a.chB a.nhB m.hB a.AhP a.chP a.nhP m.hP n _ rfl qi).mono ?_
   rintro e w2 ⟨rfl, hb2⟩
   have hb3 := hb1.trans (hb2.mono hb1.size)
   clear qi x7 x8 x9 x10
   cases hd : hdrB m.ha m.hr m.hB m.hP n with
   | false =>
    have ev : okV false = 1 := rfl
    have HN : Hid (b = false) := by show b = false; rw [← HE.out, hasB, HFM.out]; simp [hd]
    go_wp2_with fail
    go_ret
    exact ⟨ret_bool HN.out.symm, hb3⟩
   | true =>
    have ev : okV true = 0 := rfl
    have HBT := Lib.hid hd
    clear hd
    have x7 := ((HX.out _ hb2).2 7 _ rfl).1
    have x1 := ((HX.out _ hb2).2 1 _ rfl).1
    by_cases hn : ¬ (m.ha = m.f)
    ·have HQ := Lib.hid hn
     have HN : Hid (b = false) := by show b = false; rw [← HE.out, hasB, HFM.out]; simp [HQ.out]
     go_wp2_with fail
     go_ret
     exact ⟨ret_bool HN.out.symm, hb3⟩
    have hn : m.ha = m.f := Decidable.byContradiction fun h => hn h
    have HFO : Hid (formB m n = true) := by show formB m n = true; rw [HFM.out, HD.out, HBT.out, decide_eq_true hn]; rfl
    go_upto_region 16 with fail
    clear x7 x1 hn ev
    have bxa := HX.out _ hb2
    have HBA := Lib.hid bxa
    have xa3 := (bxa.2 3 _ rfl).1
    have xf3 := (bxa.2 3 _ rfl).2
    clear bxa
    have bxm : Box (w2.setCell ⟨w.heap.size, 3, none⟩ (.int .i64 0)) w.heap.size [.int .i64 m.k, .int .i64 m.f, .int .i64 m.t, .int .i64 0, .int .i64 m.ba, .int .i64 m.bn, .slice a.AL a.nL a.cL, .int .i64 m.ha, .int .i64 m.hr, .slice a.AhB a.nhB a.chB, .slice a.AhP a.nhP a.chP, .int .i64 m.ca, .int .i64 m.cr, .slice a.AcB a.ncB a.ccB, .slice a.AcP a.ncP a.ccP, .int .i64 m.cd, .slice a.AcS a.ncS a.ccS, .slice a.AD a.nD a.cD] := HBA.out.set (j := 3) (by simp [msgC])
    have hbm : Below w.heap.size w (w2.setCell ⟨w.heap.size, 3, none⟩ (.int .i64 0)) := hb3.setCell (Nat.le_refl _) _
    have HBM := Lib.hid bxm
    clear bxm
    go_wp2_with (refine wpList_store_box rfl 44 _ _ rfl w.heap.size 7 [.int .i64 0, .int .i64 0, .slice none 0 0, .slice none 0 0] [.int .i64 m.k, .int .i64 m.f, .int .i64 m.t, .int .i64 0, .int .i64 m.ba, .int .i64 m.bn, .slice a.AL a.nL a.cL, .int .i64 m.ha, .int .i64 m.hr, .slice a.AhB a.nhB a.chB, .slice a.AhP a.nhP a.chP, .int .i64 m.ca, .int .i64 m.cr, .slice a.AcB a.ncB a.ccB, .slice a.AcP a.ncP a.ccP, .int .i64 m.cd, .slice a.AcS a.ncS a.ccS, .slice a.AD a.nD a.cD] [.int .i64 m.k, .int .i64 m.f, .int .i64 m.t, .int .i64 0, .int .i64 m.ba, .int .i64 m.bn, .slice a.AL a.nL a.cL, .int .i64 0, .int .i64 0, .slice none 0 0, .slice none 0 0, .int .i64 m.ca, .int .i64 m.cr, .slice a.AcB a.ncB a.ccB, .slice a.AcP a.ncP a.ccP, .int .i64 m.cd, .slice a.AcS a.ncS a.ccS, .slice a.AD a.nD a.cD] rfl rfl HBM.out (by simp) rfl size_hdr rfl ?_)
    intro wz bxz Tz
    have tz := Tz (fun k => k = w.heap.size) rfl
    have hbz : Below w.heap.size w wz := hbm.trans (tz.below (fun k hk => by rw [hk]; exact Nat.le_refl _) (hbm).size)
    have HBZ := Lib.hid bxz
    clear bxz tz Tz xa3 xf3
    go_wp2_with (refine wpList_load_box rfl 48 _ rfl w.heap.size rfl [.int .i64 m.k, .int .i64 m.f, .int .i64 m.t, .int .i64 0, .int .i64 m.ba, .int .i64 m.bn, .slice a.AL a.nL a.cL, .int .i64 0, .int .i64 0, .slice none 0 0, .slice none 0 0, .int .i64 m.ca, .int .i64 m.cr, .slice a.AcB a.ncB a.ccB, .slice a.AcP a.ncP a.ccP, .int .i64 m.cd, .slice a.AcS a.ncS a.ccS, .slice a.AD a.nD a.cD] HBZ.out _ Tryz.underlying48 rfl size_mes ?_)
    refine (isBare_is (bareB { m with d := 0, ha := 0, hr := 0, hB := [], hP := [] }) { m with d := 0, ha := 0, hr := 0, hB := [], hP := [] } { a with AhB := none, nhB := 0, chB := 0, AhP := none, nhP := 0, chP := 0 } _ rfl (HI.out _ hbz).off_h).mono ?_
    rintro e wb ⟨rfl, hbb⟩
    have HN : Hid (b = bareB { m with d := 0, ha := 0, hr := 0, hB := [], hP := [] }) := by
     show b = _
     rw [← HE.out, hasB, HFO.out, off_h HK.out]
     simp only [Bool.true_and]
    go_wp2_with fail
    go_ret
    exact ⟨ret_bool HN.out.symm, hbz.trans (hbb.mono hbz.size)⟩
 have n4 := Lib.hid hk
 have e4 : (m.k == 4) = false := by simp [hk]
 clear hk
 by_cases hk : m.k = 6
 ·have e1 : (m.k == 1) = false := by simp [hk]
  have e3 : (m.k == 3) = false := by simp [hk]
  have e2 : (m.k == 2) = false := by simp [hk]
  have e5 : (m.k == 5) = false := by simp [hk]
  have e4 : (m.k == 4) = false := by simp [hk]
  have e6 : (m.k == 6) = true := by simp [hk]
  have e7 : (m.k == 7) = false := by simp [hk]
  have e8 : (m.k == 8) = false := by simp [hk]
  have HFM : Hid (formB m n = (certB m.ca m.cr m.cB m.cP m.cd m.cS n)) := by show formB m n = _; unfold formB; simp [hk]
  have HK : Hid (m.k = 6) := by show m.k = 6; omega
  clear hk
  have x11 := ((HX.out _ (Below.refl _ _)).2 11 _ rfl).1
  have x12 := ((HX.out _ (Below.refl _ _)).2 12 _ rfl).1
  have x13 := ((HX.out _ (Below.refl _ _)).2 13 _ rfl).1
  have x14 := ((HX.out _ (Below.refl _ _)).2 14 _ rfl).1
  have x15 := ((HX.out _ (Below.refl _ _)).2 15 _ rfl).1
  have x16 := ((HX.out _ (Below.refl _ _)).2 16 _ rfl).1
  go_wp2_with fail
  have qi := (HI.out _ hb1).chdr HO.out HF.out
  refine (hcert_is (certB m.ca m.cr m.cB m.cP m.cd m.cS n) m.ca m.cr a.AcB a.ccB a.ncB m.cB a.AcP a.ccP a.ncP m.cP m.cd a.AcS a.ccS a.ncS m.cS n _ rfl qi ((HI.out _ hb1).sig HO.out) HF.out.scS).mono ?_
  rintro e w2 ⟨rfl, hb2⟩
  have hb3 := hb1.trans (hb2.mono hb1.size)
  clear qi x11 x12 x13 x14 x15 x16
  cases hd : certB m.ca m.cr m.cB m.cP m.cd m.cS n with
  | false =>
   have ev : okV false = 1 := rfl
   have HN : Hid (b = false) := by show b = false; rw [← HE.out, hasB, HFM.out]; simp [hd]
   go_wp2_with fail
   go_ret
   exact ⟨ret_bool HN.out.symm, hb3⟩
  | true =>
   have ev : okV true = 0 := rfl
   have HFO : Hid (formB m n = true) := HFM.out.trans hd
   clear hd
   go_upto_region 20 with fail
   clear ev
   have bxa := HX.out _ hb2
   have HBA := Lib.hid bxa
   clear bxa
   go_wp2_with (refine wpList_store_box rfl 46 _ _ rfl w.heap.size 11 [.int .i64 0, .int .i64 0, .slice none 0 0, .slice none 0 0, .int .i64 0, .slice none 0 0] (msgC m a) [.int .i64 m.k, .int .i64 m.f, .int .i64 m.t, .int .i64 m.d, .int .i64 m.ba, .int .i64 m.bn, .slice a.AL a.nL a.cL, .int .i64 m.ha, .int .i64 m.hr, .slice a.AhB a.nhB a.chB, .slice a.AhP a.nhP a.chP, .int .i64 0, .int .i64 0, .slice none 0 0, .slice none 0 0, .int .i64 0, .slice none 0 0, .slice a.AD a.nD a.cD] rfl rfl HBA.out (by simp [msgC]) rfl size_cert rfl ?_)
   intro wz bxz Tz
   have tz := Tz (fun k => k = w.heap.size) rfl
   have hbz : Below w.heap.size w wz := hb3.trans (tz.below (fun k hk => by rw [hk]; exact Nat.le_refl _) (hb3).size)
   have HBZ := Lib.hid bxz
   clear bxz tz Tz
   go_wp2_with (refine wpList_load_box rfl 48 _ rfl w.heap.size rfl [.int .i64 m.k, .int .i64 m.f, .int .i64 m.t, .int .i64 m.d, .int .i64 m.ba, .int .i64 m.bn, .slice a.AL a.nL a.cL, .int .i64 m.ha, .int .i64 m.hr, .slice a.AhB a.nhB a.chB, .slice a.AhP a.nhP a.chP, .int .i64 0, .int .i64 0, .slice none 0 0, .slice none 0 0, .int .i64 0, .slice none 0 0, .slice a.AD a.nD a.cD] HBZ.out _ Tryz.underlying48 rfl size_mes ?_)
   refine (isBare_is (bareB { m with ca := 0, cr := 0, cB := [], cP := [], cd := 0, cS := [] }) { m with ca := 0, cr := 0, cB := [], cP := [], cd := 0, cS := [] } { a with AcB := none, ncB := 0, ccB := 0, AcP := none, ncP := 0, ccP := 0, AcS := none, ncS := 0, ccS := 0 } _ rfl (HI.out _ hbz).off_c).mono ?_
   rintro e wb ⟨rfl, hbb⟩
   have HN : Hid (b = bareB { m with ca := 0, cr := 0, cB := [], cP := [], cd := 0, cS := [] }) := by
    show b = _
    rw [← HE.out, hasB, HFO.out, off_c HK.out]
    simp only [Bool.true_and]
   go_wp2_with fail
   go_ret
   exact ⟨ret_bool HN.out.symm, hbz.trans (hbb.mono hbz.size)⟩
 have n6 := Lib.hid hk
 have e6 : (m.k == 6) = false := by simp [hk]
 clear hk
 by_cases hk : m.k = 7
 ·have e1 : (m.k == 1) = false := by simp [hk]
  have e3 : (m.k == 3) = false := by simp [hk]
  have e2 : (m.k == 2) = false := by simp [hk]
  have e5 : (m.k == 5) = false := by simp [hk]
  have e4 : (m.k == 4) = false := by simp [hk]
  have e6 : (m.k == 6) = false := by simp [hk]
  have e7 : (m.k == 7) = true := by simp [hk]
  have e8 : (m.k == 8) = false := by simp [hk]
  have HFM : Hid (formB m n = (wantB m.D)) := by show formB m n = _; unfold formB; simp [hk, wantB]
  have HK : Hid (m.k = 7 ∨ m.k = 8) := by show m.k = 7 ∨ m.k = 8; omega
  clear hk
  have x17 := ((HX.out _ (Below.refl _ _)).2 17 _ rfl).1
  go_wp2_with fail
  have qi := HI.out _ hb1
  refine (isWanted_is (wantB m.D) a.AD a.cD a.nD m.D _ rfl qi.zD qi.rD (by have := HF.out.sD; omega)).mono ?_
  rintro e w' ⟨rfl, rfl⟩
  clear qi
  cases hd : wantB m.D with
  | false =>
   have HN : Hid (b = false) := by show b = false; rw [← HE.out, hasB, HFM.out]; simp [hd]
   go_wp2_with fail
   go_ret
   exact ⟨ret_bool HN.out.symm, hb1⟩
  | true =>
   have HFO : Hid (formB m n = true) := HFM.out.trans hd
   clear hd x17
   have bxa := HX.out _ (Below.refl _ _)
   have HBA := Lib.hid bxa
   have xa17 := (bxa.2 17 _ rfl).1
   have xf17 := (bxa.2 17 _ rfl).2
   clear bxa
   have bxz : Box (w1.setCell ⟨w.heap.size, 17, none⟩ (.slice none 0 0)) w.heap.size [.int .i64 m.k, .int .i64 m.f, .int .i64 m.t, .int .i64 m.d, .int .i64 m.ba, .int .i64 m.bn, .slice a.AL a.nL a.cL, .int .i64 m.ha, .int .i64 m.hr, .slice a.AhB a.nhB a.chB, .slice a.AhP a.nhP a.chP, .int .i64 m.ca, .int .i64 m.cr, .slice a.AcB a.ncB a.ccB, .slice a.AcP a.ncP a.ccP, .int .i64 m.cd, .slice a.AcS a.ncS a.ccS, .slice none 0 0] := HBA.out.set (j := 17) (by simp [msgC])
   have hbz : Below w.heap.size w (w1.setCell ⟨w.heap.size, 17, none⟩ (.slice none 0 0)) := hb1.setCell (Nat.le_refl _) _
   have HBZ := Lib.hid bxz
   clear bxz
   go_wp2_with (refine wpList_load_box rfl 48 _ rfl w.heap.size rfl [.int .i64 m.k, .int .i64 m.f, .int .i64 m.t, .int .i64 m.d, .int .i64 m.ba, .int .i64 m.bn, .slice a.AL a.nL a.cL, .int .i64 m.ha, .int .i64 m.hr, .slice a.AhB a.nhB a.chB, .slice a.AhP a.nhP a.chP, .int .i64 m.ca, .int .i64 m.cr, .slice a.AcB a.ncB a.ccB, .slice a.AcP a.ncP a.ccP, .int .i64 m.cd, .slice a.AcS a.ncS a.ccS, .slice none 0 0] HBZ.out _ Tryz.underlying48 rfl size_mes ?_)
   clear xa17 xf17
   refine (isBare_is (bareB { m with D := [] }) { m with D := [] } { a with AD := none, nD := 0, cD := 0 } _ rfl (HI.out _ hbz).off_w).mono ?_
   rintro e wb ⟨rfl, hbb⟩
   have HN : Hid (b = bareB { m with D := [] }) := by
    show b = _
    rw [← HE.out, hasB, HFO.out, off_w HK.out]
    simp only [Bool.true_and]
   go_wp2_with fail
   go_ret
   exact ⟨ret_bool HN.out.symm, hbz.trans (hbb.mono hbz.size)⟩
 have n7 := Lib.hid hk
 have e7 : (m.k == 7) = false := by simp [hk]
 clear hk
 by_cases hk : m.k = 8
 ·have e1 : (m.k == 1) = false := by simp [hk]
  have e3 : (m.k == 3) = false := by simp [hk]
  have e2 : (m.k == 2) = false := by simp [hk]
  have e5 : (m.k == 5) = false := by simp [hk]
  have e4 : (m.k == 4) = false := by simp [hk]
  have e6 : (m.k == 6) = false := by simp [hk]
  have e7 : (m.k == 7) = false := by simp [hk]
  have e8 : (m.k == 8) = true := by simp [hk]
  have HFM : Hid (formB m n = (wantB m.D)) := by show formB m n = _; unfold formB; simp [hk, wantB]
  have HK : Hid (m.k = 7 ∨ m.k = 8) := by show m.k = 7 ∨ m.k = 8; omega
  clear hk
  have x17 := ((HX.out _ (Below.refl _ _)).2 17 _ rfl).1
  go_wp2_with fail
  have qi := HI.out _ hb1
  refine (isWanted_is (wantB m.D) a.AD a.cD a.nD m.D _ rfl qi.zD qi.rD (by have := HF.out.sD; omega)).mono ?_
  rintro e w' ⟨rfl, rfl⟩
  clear qi
  cases hd : wantB m.D with
  | false =>
   have HN : Hid (b = false) := by show b = false; rw [← HE.out, hasB, HFM.out]; simp [hd]
   go_wp2_with fail
   go_ret
   exact ⟨ret_bool HN.out.symm, hb1⟩
  | true =>
   have HFO : Hid (formB m n = true) := HFM.out.trans hd
   clear hd x17
   have bxa := HX.out _ (Below.refl _ _)
   have HBA := Lib.hid bxa
   have xa17 := (bxa.2 17 _ rfl).1
   have xf17 := (bxa.2 17 _ rfl).2
   clear bxa
   have bxz : Box (w1.setCell ⟨w.heap.size, 17, none⟩ (.slice none 0 0)) w.heap.size [.int .i64 m.k, .int .i64 m.f, .int .i64 m.t, .int .i64 m.d, .int .i64 m.ba, .int .i64 m.bn, .slice a.AL a.nL a.cL, .int .i64 m.ha, .int .i64 m.hr, .slice a.AhB a.nhB a.chB, .slice a.AhP a.nhP a.chP, .int .i64 m.ca, .int .i64 m.cr, .slice a.AcB a.ncB a.ccB, .slice a.AcP a.ncP a.ccP, .int .i64 m.cd, .slice a.AcS a.ncS a.ccS, .slice none 0 0] := HBA.out.set (j := 17) (by simp [msgC])
   have hbz : Below w.heap.size w (w1.setCell ⟨w.heap.size, 17, none⟩ (.slice none 0 0)) := hb1.setCell (Nat.le_refl _) _
   have HBZ := Lib.hid bxz
   clear bxz
   go_wp2_with (refine wpList_load_box rfl 48 _ rfl w.heap.size rfl [.int .i64 m.k, .int .i64 m.f, .int .i64 m.t, .int .i64 m.d, .int .i64 m.ba, .int .i64 m.bn, .slice a.AL a.nL a.cL, .int .i64 m.ha, .int .i64 m.hr, .slice a.AhB a.nhB a.chB, .slice a.AhP a.nhP a.chP, .int .i64 m.ca, .int .i64 m.cr, .slice a.AcB a.ncB a.ccB, .slice a.AcP a.ncP a.ccP, .int .i64 m.cd, .slice a.AcS a.ncS a.ccS, .slice none 0 0] HBZ.out _ Tryz.underlying48 rfl size_mes ?_)
   clear xa17 xf17
   refine (isBare_is (bareB { m with D := [] }) { m with D := [] } { a with AD := none, nD := 0, cD := 0 } _ rfl (HI.out _ hbz).off_w).mono ?_
   rintro e wb ⟨rfl, hbb⟩
   have HN : Hid (b = bareB { m with D := [] }) := by
    show b = _
    rw [← HE.out, hasB, HFO.out, off_w HK.out]
    simp only [Bool.true_and]
   go_wp2_with fail
   go_ret
   exact ⟨ret_bool HN.out.symm, hbz.trans (hbb.mono hbz.size)⟩
 have n8 := Lib.hid hk
 have e8 : (m.k == 8) = false := by simp [hk]
 clear hk
 have HN : Hid (b = false) := by
  show b = false
  rw [← HE.out, hasB, formB, if_neg (by rintro (h | h); exact n1.out h; exact n3.out h), if_neg (by rintro (h | h); exact n2.out h; exact n5.out h), if_neg n4.out, if_neg n6.out, if_neg (by rintro (h | h); exact n7.out h; exact n8.out h)]
  rfl
 go_wp2_with fail
 go_ret
 exact ⟨ret_bool HN.out.symm, hb1⟩

/-! ### Check -/
theorem mess_split (m : MsgD) (n : Int) : messB m n = (nodeB m.f n && (nodeB m.t n && (decide (m.f ≠ m.t) && hasB m n))) := by
 unfold messB hasB idsB nodeB
 rw [Bool.eq_iff_iff]
 simp only [Bool.and_eq_true, decide_eq_true_eq]
 constructor
 ·rintro ⟨⟨h1, h2, h3, h4⟩, h5⟩; exact ⟨⟨h1, h2⟩, ⟨h1, h3⟩, h4, h5⟩
 ·rintro ⟨⟨h1, h2⟩, ⟨_, h3⟩, h4, h5⟩; exact ⟨⟨h1, h2, h3, h4⟩, h5⟩
set_option maxRecDepth 100000 in
set_option maxHeartbeats 4000000 in
theorem mcheck_is (b : Bool) (m : MsgD) (a : MsgA) (n : Int) (w : World) (h : messB m n = b) (hi : MsgIn w m a) (ho : MsgOk m) (hf : MsgFew 1000000 a) :
  Calls Tryz.prog 101 #[msgV m a, .int .i64 n] w (Tells w.heap.size w (.int .i64 (okV b))) := by
 obtain ⟨w1, hw1⟩ : ∃ w1, w1 = w.alloc (.cells #[.int .i64 m.k, .int .i64 m.f, .int .i64 m.t, .int .i64 m.d, .int .i64 m.ba, .int .i64 m.bn, .slice a.AL a.nL a.cL, .int .i64 m.ha, .int .i64 m.hr, .slice a.AhB a.nhB a.chB, .slice a.AhP a.nhP a.chP, .int .i64 m.ca, .int .i64 m.cr, .slice a.AcB a.ncB a.ccB, .slice a.AcP a.ncP a.ccP, .int .i64 m.cd, .slice a.AcS a.ncS a.ccS, .slice a.AD a.nD a.cD] 48) := ⟨_, rfl⟩
 have hb1 : Below w.heap.size w w1 := by rw [hw1]; exact (Below.refl _ _).alloc (Nat.le_refl _) _
 have bx1 : Box w1 w.heap.size (msgC m a) := by
  rw [hw1]
  exact box_new w (msgC m a) 48
 have HW := Lib.hid hw1
 have HX : Hid (∀ wX, Below w1.heap.size w1 wX → Box wX w.heap.size (msgC m a)) := fun wX h => bx1.below h bx1.1
 have HI : Hid (∀ wX, Below w.heap.size w wX → MsgIn wX m a) := fun wX h => hi.below h
 have HO := Lib.hid ho
 have HF := Lib.hid hf
 have HE : Hid ((nodeB m.f n && (nodeB m.t n && (decide (m.f ≠ m.t) && hasB m n))) = b) := (mess_split m n).symm.trans h
 have x1 := (bx1.2 1 _ rfl).1
 clear hw1 bx1 hi ho hf h
 unfold msgV
 go_enter Tryz.func101, Tryz.ntmps101
 go_upto_region 1 with fail
 rw [← HW.out]
 go_wp2_with fail
 refine (isNode_is (nodeB m.f n) m.f n _ rfl).mono ?_
 rintro e w2 ⟨rfl, hb2⟩
 clear x1
 have hb3 := hb1.trans (hb2.mono hb1.size)
 cases h1 : nodeB m.f n with
 | false =>
  have HN : Hid (b = false) := by show b = false; rw [← HE.out, h1]; rfl
  clear h1
  go_wp2_with fail
  go_ret
  exact ⟨by rw [HN.out]; rfl, hb3⟩
 | true =>
  have H1 := Lib.hid h1
  clear h1
  have x2 := ((HX.out _ hb2).2 2 _ rfl).1
  go_wp2_with fail
  refine (isNode_is (nodeB m.t n) m.t n _ rfl).mono ?_
  rintro e w4 ⟨rfl, hb4⟩
  clear x2
  have hx4 : Below w1.heap.size w1 w4 := hb2.trans (hb4.mono hb2.size)
  have hb5 := hb3.trans (hb4.mono hb3.size)
  cases h2 : nodeB m.t n with
  | false =>
   have HN : Hid (b = false) := by show b = false; rw [← HE.out, H1.out, h2]; rfl
   clear h2
   go_wp2_with fail
   go_ret
   exact ⟨by rw [HN.out]; rfl, hb5⟩
  | true =>
   have H2 := Lib.hid h2
   clear h2
   have x1 := ((HX.out _ hx4).2 1 _ rfl).1
   have x2 := ((HX.out _ hx4).2 2 _ rfl).1
   by_cases h3 : m.f = m.t
   ·have HN : Hid (b = false) := by show b = false; rw [← HE.out, H1.out, H2.out, decide_eq_false (by simp [h3])]; rfl
    have j : (m.f == m.t) = true := by simp [h3]
    clear h3
    go_wp2_with fail
    go_ret
    exact ⟨by rw [HN.out]; rfl, hb5⟩
   ·have HN : Hid (hasB m n = b) := by
     show hasB m n = b
     rw [← HE.out, H1.out, H2.out, decide_eq_true (by simpa using h3)]
     simp only [Bool.true_and]
    have j : (m.f == m.t) = false := by simp [h3]
    clear h3
    go_wp2_with (refine wpList_load_box rfl 48 _ rfl w.heap.size rfl (msgC m a) (HX.out _ hx4) _ Tryz.underlying48 rfl size_mes ?_)
    refine (hasForm_is b m a n _ HN.out (HI.out _ hb5) HO.out HF.out).mono ?_
    rintro e w6 ⟨rfl, hb6⟩
    have hb7 := hb5.trans (hb6.mono hb5.size)
    clear x1 x2 j
    cases b with
    | true =>
     go_wp2_with fail
     go_ret
     exact ⟨rfl, hb7⟩
    | false =>
     go_wp2_with fail
     go_ret
     exact ⟨rfl, hb7⟩

end Go.Proofs.YteepobghdpnabaaGreat
