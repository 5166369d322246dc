/-
  The page's own walks: numbers as texts and back.
-/
import Derived.Test.YtkgbnohmhjljoaaTexts
import Derived.Test.YtkgbnohmhjljoaaRefTexts
namespace Go.Proofs.Ytkgbnohmhjljoaa
open Go.RowKit

/-- string(b) of some bytes -/
theorem conv_rd {P : Program} (w : World) {A : Option Addr} {n : Nat} {zs : List Int} (hz : zs.length = n) (h0 : 0 < n) (hr : Rd w A (u8s zs)) (src e dst : TypeId) (hs : P.underlying src = some (.slice e)) (he : P.underlying e = some (.int .u8)) (hd : P.underlying dst = some .string) (c : Nat) :
    (convert src dst (.slice A n c)).run P w = .ok (.string (strOfNums zs)) w := by
  subst hz
  obtain ⟨b, off, rfl, _, hc⟩ := hr.open_ (by rw [u8s_length]; exact h0)
  refine run_convert_bytes_arg w src e hs he b off zs.length c zs rfl (fun i hi => ?_) dst hd
  rw [hc i _ (u8s_at hi)]
  rw [List.getD_eq_getElem?_getD]

theorem rnumT_any (n : Int) (w : World) (h0 : 0 ≤ n) (h : n < 9223372036854775808) :
    Calls Try.prog 46 #[.int .i64 n] w (Tells w.heap.size w (.string (numT n))) := by
  obtain ⟨m, rfl⟩ : ∃ m : Nat, n = (m : Int) := ⟨n.toNat, by omega⟩
  have hpos := vnum_pos m
  obtain ⟨K, hK⟩ : ∃ K, (vnum m).length = K := ⟨_, rfl⟩
  rw [hK] at hpos
  have HK := Lib.hid hK
  clear hK
  go_enter Try.func46, Try.ntmps46
  go_wp2_with fail
  refine (rnum_any m _ (by omega)).mono ?_
  rintro e w1 ⟨v, rfl, ho, hb⟩
  have ho1 := own_cast ho ((u8s_length _).trans HK.out)
  obtain ⟨A, c, rfl, _, _, hr, _, hl⟩ := own_val ho1
  clear hl ho ho1
  have hcv := fun c => conv_rd (P := Try.prog) w1 HK.out hpos hr 28 5 9 Try.underlying28 Try.underlying5 Try.underlying9 c
  go_wp2_with fail
  go_ret
  exact ⟨by simp [numT], hb⟩

/-- some number, and whether the text is one -/
def Whole (s : ByteArray) (w : World) (e : Ending) (w' : World) : Prop :=
  ∃ (x : Int) (b : Bool), e = .returned (.tuple #[.int .i64 x, .bool b]) ∧ Below w.heap.size w w' ∧ (wholeN s).isSome = b ∧ (∀ m, wholeN s = some m → x = (m : Int))
theorem ret_wpair {k : IntKind} {x : Int} {a b : Bool} (h : a = b) : Ending.returned (.tuple #[.int k x, .bool a]) = .returned (.tuple #[.int k x, .bool b]) := by rw [h]

theorem whole_none {s : ByteArray} (h : gn 0 0 (byt s) = none) : wholeN s = none := by unfold wholeN; rw [h]; rfl
theorem whole_like {s : ByteArray} {m k : Nat} (h : gn 0 0 (byt s) = some (m, k)) (hk : k = s.size) : wholeN s = some m := by unfold wholeN; rw [h]; simp [hk]
theorem whole_unlike {s : ByteArray} {m k : Nat} (h : gn 0 0 (byt s) = some (m, k)) (hk : k ≠ s.size) : wholeN s = none := by unfold wholeN; rw [h]; simp [hk]

set_option maxHeartbeats 1000000 in
theorem rwhole_any (s : ByteArray) (w : World) (hs : s.size ≤ 1048576) :
    Calls Try.prog 51 #[.string s] w (Whole s w) := by
  have hcv := fun (w : World) (s : ByteArray) => Lib.run_convert_string_bytes (P := Try.prog) w 9 28 5 s Try.underlying9 Try.underlying28 Try.underlying5
  have hbl := text_below w 5 s
  have hrd := text_rd w 5 s
  rw [← byt_cells] at hrd
  have HBL := Lib.hid hbl
  have HRD := Lib.hid hrd
  clear hbl hrd
  cases hg : gn 0 0 (byt s) with
  | none =>
    have HG := Lib.hid hg
    have HW := Lib.hid (whole_none hg)
    clear hg
    go_enter Try.func51, Try.ntmps51
    go_wp2_with fail
    refine (rgetNum_any _ _ s.size (byt s) _ (byt_length s) HRD.out (byt_byts s) (by omega)).mono ?_
    rintro e w1 ⟨rfl, hb⟩
    rw [HG.out]
    unfold rgnVal
    go_wp2_with fail
    go_ret2
    exact ⟨_, false, rfl, HBL.out.trans (hb.mono HBL.out.size), by rw [HW.out]; rfl, fun m hm => by rw [HW.out] at hm; cases hm⟩
  | some p =>
    obtain ⟨m, k⟩ := p
    have ⟨hk0, hk1⟩ : 0 < k ∧ k ≤ s.size := by
      obtain ⟨_, _, _, _, h0, h1, _⟩ := put_get (byt_byts s) hg
      rw [byt_length] at h1
      exact ⟨h0, h1⟩
    have HG := Lib.hid hg
    have j0 : (0 : Int) < (k : Int) := by omega
    by_cases hk : k = s.size
    · have HW := Lib.hid (whole_like hg hk)
      have j1 : ((k : Int) == (s.size : Int)) = true := by simp [hk]
      have j2 : (k == s.size) = true := by simp [hk]
      clear hg hk
      go_enter Try.func51, Try.ntmps51
      go_wp2_with fail
      refine (rgetNum_any _ _ s.size (byt s) _ (byt_length s) HRD.out (byt_byts s) (by omega)).mono ?_
      rintro e w1 ⟨rfl, hb⟩
      rw [HG.out]
      unfold rgnVal
      go_wp2_with fail
      go_ret2
      exact ⟨m, true, ret_wpair (by simp), HBL.out.trans (hb.mono HBL.out.size), by rw [HW.out]; rfl, fun m' hm => by rw [HW.out] at hm; cases hm; rfl⟩
    · have HW := Lib.hid (whole_unlike hg hk)
      have j1 : ((k : Int) == (s.size : Int)) = false := by simp; omega
      have j2 : (k == s.size) = false := by simp [hk]
      clear hg hk
      go_enter Try.func51, Try.ntmps51
      go_wp2_with fail
      refine (rgetNum_any _ _ s.size (byt s) _ (byt_length s) HRD.out (byt_byts s) (by omega)).mono ?_
      rintro e w1 ⟨rfl, hb⟩
      rw [HG.out]
      unfold rgnVal
      go_wp2_with fail
      go_ret2
      exact ⟨_, false, ret_wpair (by simp), HBL.out.trans (hb.mono HBL.out.size), by rw [HW.out]; rfl, fun m' hm => by rw [HW.out] at hm; cases hm⟩

end Go.Proofs.Ytkgbnohmhjljoaa
