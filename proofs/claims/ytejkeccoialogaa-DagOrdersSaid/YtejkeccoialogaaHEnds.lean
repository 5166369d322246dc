/-
  Package header's Cert.
-/
import Derived.Test.YtejkeccoialogaaHRise
namespace Go.Proofs.Ytejkeccoialogaa
open Go.RowKit

/-! ### rising nodes are unlike nodes -/
theorem upB_split : ∀ {m most x : Int} {L r : List Int}, upB m most (L ++ x :: r) = true → ∀ y ∈ L, y < x
  | m, most, x, [], r, _ => fun y h => by simp at h
  | m, most, x, z :: L, r, h => fun y hy => by
    rw [List.cons_append, upB_cons, Bool.and_eq_true] at h
    rcases List.mem_cons.1 hy with rfl | hy
    · exact ((upB_iff.1 h.2).1 x (by simp)).1
    · exact upB_split h.2 y hy
theorem tal_ris {n : Int} {S : List Int} (h : upB 0 n S = true) (hn : n ≤ 16) : ∀ k : Nat, k ≤ S.length → tal n (S.take k) = k
  | 0, _ => by rw [List.take_zero]; exact tal_nil n
  | k + 1, hk => by
    have ih := tal_ris h hn k (by omega)
    have hx : S[k]? = some (S[k]?.getD 0) := at_some (by omega)
    obtain ⟨x, hxe⟩ : ∃ x, S[k]?.getD 0 = x := ⟨_, rfl⟩
    rw [hxe] at hx
    have hmem := (upB_iff.1 h).1 x (List.mem_of_getElem? hx)
    have hsp : S = S.take k ++ x :: S.drop (k + 1) := by
      conv => lhs; rw [← List.take_append_drop k S]
      rw [drop_at (l := S) (k := k) (by omega), hxe]
    have hlt := upB_split (L := S.take k) (by rw [← hsp]; exact h)
    obtain ⟨q, rfl⟩ : ∃ q : Nat, x = (q : Int) := ⟨x.toNat, by omega⟩
    rw [take_one hx, tal_new ?_ (by omega) (by omega) (by omega), ih]
    unfold seen
    rw [decide_eq_false_iff_not]
    rintro ⟨_, _, hm⟩
    have := hlt _ hm
    omega
theorem enough_ris {n : Int} {S : List Int} (h : upB 0 n S = true) (hn : n ≤ 16) : enough n S = decide (quoN n ≤ (S.length : Int)) := by
  unfold enough quoN
  rw [← tal_ris h hn S.length (Nat.le_refl _), List.take_length]

/-- what a certificate is, step by step -/
theorem cert_is {a r : Int} {B P : List Int} {d : Int} {S : List Int} {n : Int} : certB a r B P d S n = true ↔ hdrB a r B P n = true ∧ (1 ≤ d ∧ d ≤ 65536) ∧ upB 0 n S = true ∧ enough n S = true := by
  unfold certB
  rw [decide_eq_true_eq, upB_ris, Bool.and_eq_true]
  constructor
  · rintro ⟨h1, h2, h3, h4, h5⟩
    refine ⟨h1, h2, ⟨h4, h3⟩, ?_⟩
    have hm : 1 ≤ n ∧ n ≤ 16 ∧ n % 3 = 1 := by simpa only [mayB, decide_eq_true_eq] using hcheck_in h1
    rw [enough_ris (by rw [upB_ris, Bool.and_eq_true]; exact ⟨h4, h3⟩) hm.2.1, decide_eq_true_eq]
    exact h5
  · rintro ⟨h1, h2, ⟨h3, h4⟩, h5⟩
    refine ⟨h1, h2, h4, h3, ?_⟩
    have hm : 1 ≤ n ∧ n ≤ 16 ∧ n % 3 = 1 := by simpa only [mayB, decide_eq_true_eq] using hcheck_in h1
    rw [enough_ris (by rw [upB_ris, Bool.and_eq_true]; exact ⟨h3, h4⟩) hm.2.1, decide_eq_true_eq] at h5
    exact h5

set_option maxHeartbeats 2000000 in
theorem hcert_is (b : Bool) (a r : Int) (AB : Option Addr) (cB nB : Nat) (B : List Int) (AP : Option Addr) (cP nP : Nat) (P : List Int) (d : Int) (AS : Option Addr) (cS nS : Nat) (S : List Int) (n : Int) (w : World) (h : certB a r B P d S n = b) (hi : HdrIn w AB cB nB B AP cP nP P) (hs : NumsIn w AS cS nS S) (hlS : nS ≤ 1000000) :
    Calls Try.prog 80 #[.agg #[.int .i64 a, .int .i64 r, .slice AB nB cB, .slice AP nP cP, .int .i64 d, .slice AS nS cS], .int .i64 n] w (Tells w.heap.size w (.int .i64 (okV b))) := by
  obtain ⟨w1, hw1⟩ : ∃ w1, w1 = w.alloc (.cells #[.int .i64 a, .int .i64 r, .slice AB nB cB, .slice AP nP cP, .int .i64 d, .slice AS nS cS] 37) := ⟨_, rfl⟩
  have hb1 : Below w.heap.size w w1 := by rw [hw1]; exact (Below.refl _ _).alloc (Nat.le_refl _) _
  have HBX := Lib.hid (cbox_new hw1)
  have hi1 := hi.below hb1
  have hrS := hs.hr.below hb1
  have HZS := Lib.hid hs.hz
  have HW := Lib.hid hw1
  clear hw1 hs
  cases hh : hdrB a r B P n with
  | false =>
    have HH := Lib.hid hh
    have HN : Hid (b = false) := by
      show b = false
      rw [← h]
      cases h5 : certB a r B P d S n with
      | false => rfl
      | true => rw [(cert_is.1 h5).1] at hh; cases hh
    clear hh h
    obtain ⟨c0, c1, c2, c3, c4, c5⟩ := HBX.out _ (Below.refl _ _)
    go_enter Try.func80, Try.ntmps80
    go_wp2_with fail
    rw [← HW.out]
    go_wp2_with fail
    refine (hcheck_no a r AB cB nB B AP cP nP P n _ HH.out hi1).mono ?_
    rintro e w2 ⟨rfl, hb2⟩
    have hb3 := hb1.trans (hb2.mono hb1.size)
    clear c0 c1 c2 c3 c4 c5
    go_wp2_with fail
    go_ret
    exact ⟨by rw [HN.out]; rfl, hb3⟩
  | true =>
    have HH := Lib.hid hh
    have hm : 1 ≤ n ∧ n ≤ 16 ∧ n % 3 = 1 := by simpa only [mayB, decide_eq_true_eq] using hcheck_in hh
    have HM : Hid (may n = true) := (may_mayB n).trans (hcheck_in hh)
    have HC : Hid (certB a r B P d S n = b) := h
    clear hh h
    go_enter Try.func80, Try.ntmps80
    go_wp2_with fail
    rw [← HW.out]
    obtain ⟨c0, c1, c2, c3, c4, c5⟩ := HBX.out _ (Below.refl _ _)
    go_wp2_with fail
    refine (hcheck_yes a r AB cB nB B AP cP nP P n _ HH.out hi1).mono ?_
    rintro e w2 ⟨rfl, hb2⟩
    have hb3 := hb1.trans (hb2.mono hb1.size)
    clear c0 c1 c2 c3 c4 c5
    obtain ⟨c0, c1, c2, c3, c4, c5⟩ := HBX.out _ hb2
    have hrS2 := hrS.below hb2
    clear c0 c1 c2 c3
    by_cases h1 : d < 1
    · have HN : Hid (b = false) := by
        show b = false
        rw [← HC.out]
        cases h5 : certB a r B P d S n with
        | false => rfl
        | true => have := (cert_is.1 h5).2.1; omega
      go_wp2_with fail
      go_ret
      exact ⟨by rw [HN.out]; rfl, hb3⟩
    by_cases h2 : 65536 < d
    · have HN : Hid (b = false) := by
        show b = false
        rw [← HC.out]
        cases h5 : certB a r B P d S n with
        | false => rfl
        | true => have := (cert_is.1 h5).2.1; omega
      go_wp2_with fail
      go_ret
      exact ⟨by rw [HN.out]; rfl, hb3⟩
    cases hu : upB 0 n S with
    | false =>
      have HU := Lib.hid hu
      have HN : Hid (b = false) := by
        show b = false
        rw [← HC.out]
        cases h5 : certB a r B P d S n with
        | false => rfl
        | true => rw [(cert_is.1 h5).2.2.1] at hu; cases hu
      clear hu
      go_wp2_with fail
      refine (isRising_is false AS cS nS S _ _ HU.out HZS.out hrS2 (by omega)).mono ?_
      rintro e w' ⟨rfl, rfl⟩
      go_wp2_with fail
      go_ret
      exact ⟨by rw [HN.out]; rfl, hb3⟩
    | true =>
      have HU := Lib.hid hu
      clear hu
      go_wp2_with fail
      refine (isRising_is true AS cS nS S _ _ HU.out HZS.out hrS2 (by omega)).mono ?_
      rintro e w' ⟨rfl, rfl⟩
      go_wp2_with fail
      refine (enough_yes n AS cS nS S _ HM.out HZS.out hrS2 (by omega)).mono ?_
      rintro e w3 ⟨rfl, hb4⟩
      have hb5 := hb3.trans (hb4.mono hb3.size)
      cases he : enough n S with
      | true =>
        have HN : Hid (b = true) := by
          show b = true
          rw [← HC.out]
          exact cert_is.2 ⟨HH.out, by omega, HU.out, he⟩
        clear he
        go_wp2_with fail
        go_ret
        exact ⟨by rw [HN.out]; rfl, hb5⟩
      | false =>
        have HN : Hid (b = false) := by
          show b = false
          rw [← HC.out]
          cases h5 : certB a r B P d S n with
          | false => rfl
          | true => rw [(cert_is.1 h5).2.2.2] at he; cases he
        clear he
        go_wp2_with fail
        go_ret
        exact ⟨by rw [HN.out]; rfl, hb5⟩

end Go.Proofs.Ytejkeccoialogaa
