/-
  The page's own walks on batches: numbers as texts and back; copies and comparisons of batches.
-/
import Derived.Test.YtkkamcdilpcehaaValid
import Derived.Test.YtkkamcdilpcehaaRefTexts
namespace Go.Proofs.Ytkkamcdilpcehaa
open Go.RowKit

theorem bcell {W w1 : World} (hb : Below W.heap.size W w1) : (∀ b o, b < W.heap.size → w1.cell? ⟨b, o, none⟩ = W.cell? ⟨b, o, none⟩) ∧ (∀ b o, b < W.heap.size → w1.frozen? ⟨b, o, none⟩ = W.frozen? ⟨b, o, none⟩) :=
  ⟨fun b o h => hb.cell (p := ⟨b, o, none⟩) h, fun b o h => hb.frozen (p := ⟨b, o, none⟩) h⟩

/-- string(b) of some bytes -/
theorem conv_rd {P : Program} (w : World) {A : Option Addr} {n : Nat} {zs : List Int} (hz : zs.length = n) (h0 : 0 < n) (hr : Rd w A (u8s zs)) (src e dst : TypeId) (hs : P.underlying src = some (.slice e)) (he : P.underlying e = some (.int .u8)) (hd : P.underlying dst = some .string) (c : Nat) :
    (convert src dst (.slice A n c)).run P w = .ok (.string (strOfNums zs)) w := by
  subst hz
  obtain ⟨b, off, rfl, _, hc⟩ := hr.open_ (by rw [u8s_length]; exact h0)
  refine run_convert_bytes_arg w src e hs he b off zs.length c zs rfl (fun i hi => ?_) dst hd
  rw [hc i _ (u8s_at hi)]
  rw [List.getD_eq_getElem?_getD]

theorem rnumT_any (n : Int) (w : World) (h0 : 0 ≤ n) (h : n < 9223372036854775808) :
    Calls Try.prog 33 #[.int .i64 n] w (Tells w.heap.size w (.string (numT n))) := by
  obtain ⟨m, rfl⟩ : ∃ m : Nat, n = (m : Int) := ⟨n.toNat, by omega⟩
  have hpos := vnum_pos m
  obtain ⟨K, hK⟩ : ∃ K, (vnum m).length = K := ⟨_, rfl⟩
  rw [hK] at hpos
  have HK := Lib.hid hK
  clear hK
  go_enter Try.func33, Try.ntmps33
  go_wp2_with fail
  refine (rnum_any m _ (by omega)).mono ?_
  rintro e w1 ⟨v, rfl, ho, hb⟩
  have ho1 := own_cast ho ((u8s_length _).trans HK.out)
  obtain ⟨A, c, rfl, _, _, hr, _, hl⟩ := own_val ho1
  clear hl ho ho1
  have hcv := fun c => conv_rd (P := Try.prog) w1 HK.out hpos hr 27 5 9 Try.underlying27 Try.underlying5 Try.underlying9 c
  go_wp2_with fail
  go_ret
  exact ⟨by simp [numT], hb⟩

/-- some number, and whether the text is one -/
def Whole (s : ByteArray) (w : World) (e : Ending) (w' : World) : Prop :=
  ∃ (x : Int) (b : Bool), e = .returned (.tuple #[.int .i64 x, .bool b]) ∧ Below w.heap.size w w' ∧ (wholeN s).isSome = b ∧ (∀ m, wholeN s = some m → x = (m : Int))
theorem ret_wpair {k : IntKind} {x : Int} {a b : Bool} (h : a = b) : Ending.returned (.tuple #[.int k x, .bool a]) = .returned (.tuple #[.int k x, .bool b]) := by rw [h]

theorem whole_none {s : ByteArray} (h : gn 0 0 (byt s) = none) : wholeN s = none := by unfold wholeN; rw [h]; rfl
theorem whole_like {s : ByteArray} {m k : Nat} (h : gn 0 0 (byt s) = some (m, k)) (hk : k = s.size) : wholeN s = some m := by unfold wholeN; rw [h]; simp [hk]
theorem whole_unlike {s : ByteArray} {m k : Nat} (h : gn 0 0 (byt s) = some (m, k)) (hk : k ≠ s.size) : wholeN s = none := by unfold wholeN; rw [h]; simp [hk]

set_option maxHeartbeats 1000000 in
theorem rwhole_any (s : ByteArray) (w : World) (hs : s.size ≤ 1048576) :
    Calls Try.prog 39 #[.string s] w (Whole s w) := by
  have hcv := fun (w : World) (s : ByteArray) => Lib.run_convert_string_bytes (P := Try.prog) w 9 27 5 s Try.underlying9 Try.underlying27 Try.underlying5
  have hbl := text_below w 5 s
  have hrd := text_rd w 5 s
  rw [← byt_cells] at hrd
  have HBL := Lib.hid hbl
  have HRD := Lib.hid hrd
  clear hbl hrd
  cases hg : gn 0 0 (byt s) with
  | none =>
    have HG := Lib.hid hg
    have HW := Lib.hid (whole_none hg)
    clear hg
    go_enter Try.func39, Try.ntmps39
    go_wp2_with fail
    refine (rgetNum_any _ _ s.size (byt s) _ (byt_length s) HRD.out (byt_byts s) (by omega)).mono ?_
    rintro e w1 ⟨rfl, hb⟩
    rw [HG.out]
    unfold rgnVal
    go_wp2_with fail
    go_ret2
    exact ⟨_, false, rfl, HBL.out.trans (hb.mono HBL.out.size), by rw [HW.out]; rfl, fun m hm => by rw [HW.out] at hm; cases hm⟩
  | some p =>
    obtain ⟨m, k⟩ := p
    have ⟨hk0, hk1⟩ : 0 < k ∧ k ≤ s.size := by
      obtain ⟨_, _, _, _, h0, h1, _⟩ := put_get (byt_byts s) hg
      rw [byt_length] at h1
      exact ⟨h0, h1⟩
    have HG := Lib.hid hg
    have j0 : (0 : Int) < (k : Int) := by omega
    by_cases hk : k = s.size
    · have HW := Lib.hid (whole_like hg hk)
      have j1 : ((k : Int) == (s.size : Int)) = true := by simp [hk]
      have j2 : (k == s.size) = true := by simp [hk]
      clear hg hk
      go_enter Try.func39, Try.ntmps39
      go_wp2_with fail
      refine (rgetNum_any _ _ s.size (byt s) _ (byt_length s) HRD.out (byt_byts s) (by omega)).mono ?_
      rintro e w1 ⟨rfl, hb⟩
      rw [HG.out]
      unfold rgnVal
      go_wp2_with fail
      go_ret2
      exact ⟨m, true, ret_wpair (by simp), HBL.out.trans (hb.mono HBL.out.size), by rw [HW.out]; rfl, fun m' hm => by rw [HW.out] at hm; cases hm; rfl⟩
    · have HW := Lib.hid (whole_unlike hg hk)
      have j1 : ((k : Int) == (s.size : Int)) = false := by simp; omega
      have j2 : (k == s.size) = false := by simp [hk]
      clear hg hk
      go_enter Try.func39, Try.ntmps39
      go_wp2_with fail
      refine (rgetNum_any _ _ s.size (byt s) _ (byt_length s) HRD.out (byt_byts s) (by omega)).mono ?_
      rintro e w1 ⟨rfl, hb⟩
      rw [HG.out]
      unfold rgnVal
      go_wp2_with fail
      go_ret2
      exact ⟨_, false, ret_wpair (by simp), HBL.out.trans (hb.mono HBL.out.size), by rw [HW.out]; rfl, fun m' hm => by rw [HW.out] at hm; cases hm⟩

set_option maxHeartbeats 1000000 in
theorem copyBatch_any (a N : Int) (A : Option Addr) (c n : Nat) (L : List TxD) (w : World) (hz : L.length = n) (hr : Rd w A (txs L)) (hc : n ≤ c) (hn : n ≤ 1073741824) :
    Calls Try.prog 13 #[.agg #[.int .i64 a, .int .i64 N, .slice A n c]] w fun e w' => ∃ A' c', e = .returned (.agg #[.int .i64 a, .int .i64 N, .slice A' n c']) ∧ w'.ownsRow w.heap.size 34 4 (.slice A' n c') n (txs L) ∧ Below w.heap.size w w' := by
  have HZ := Lib.hid hz
  clear hz
  go_enter Try.func13, Try.ntmps13
  go_wp2_with fail
  refine (copyTxs_any A c n L _ HZ.out (((hr.alloc _).alloc _).alloc _) hc hn).mono ?_
  rintro e w1 ⟨v, rfl, ho, hb⟩
  obtain ⟨A', c', rfl, _, _, _, _, _⟩ := ownS_slice ho
  obtain ⟨hcc, hff⟩ := bcell hb
  have hz : w.heap.size + 1 + 1 < w1.heap.size := by have := hb.size; simp at this; omega
  have hb3 : Below w.heap.size w w1 := ((((Below.refl _ _).alloc (Nat.le_refl _) _).alloc (by simp) _).alloc (by simp; omega) _).trans (hb.mono (by simp; omega))
  go_wp2_with fail
  refine bodyPost_ret (v := .agg #[.int .i64 a, .int .i64 N, .slice A' n c']) (by simp [results, Try.results13, go_sem, hcc]) rfl ⟨A', c', rfl, ?_, ?_⟩
  · exact ownS_more (ownsRow_setCell_below (ownsRow_setCell_below (ownsRow_setCell_below (ownsRow_setCell_below ho (by simp) _) (by simp) _) (by simp) _) (by simp) _) (by simp; omega)
  · exact (((hb3.setCell (by simp; omega) _).setCell (by simp) _).setCell (by simp) _).setCell (by simp) _

/-- are two batches the same? -/
def eqBat (a N : Int) (L : List TxD) (a' N' : Int) (M : List TxD) : Bool := decide (a = a' ∧ N = N' ∧ L = M)

set_option maxHeartbeats 1000000 in
theorem eqBatch_any (a N a' N' : Int) (A A' : Option Addr) (c c' n n' : Nat) (L M : List TxD) (w : World) (hz : L.length = n) (hz' : M.length = n') (hr : Rd w A (txs L)) (hr' : Rd w A' (txs M)) (hn : n ≤ 1073741824) (hn' : n' ≤ 1073741824) :
    Calls Try.prog 16 #[.agg #[.int .i64 a, .int .i64 N, .slice A n c], .agg #[.int .i64 a', .int .i64 N', .slice A' n' c']] w (Tells w.heap.size w (.bool (eqBat a N L a' N' M))) := by
  have HZ := Lib.hid hz
  have HZ' := Lib.hid hz'
  clear hz hz'
  have hb3 : Below w.heap.size w ((w.alloc (.cells #[.int .i64 a, .int .i64 N, .slice A n c] 26)).alloc (.cells #[.int .i64 a', .int .i64 N', .slice A' n' c'] 26)) := ((Below.refl _ _).alloc (Nat.le_refl _) _).alloc (by simp) _
  by_cases h1 : a = a'
  · subst h1
    by_cases h2 : N = N'
    · subst h2
      have HE : Hid (eqBat a N L a N M = decide (L = M)) := by show eqBat a N L a N M = decide (L = M); simp [eqBat]
      go_enter Try.func16, Try.ntmps16
      go_wp2_with fail
      refine (eqTxs_any A A' c c' n n' L M _ HZ.out HZ'.out ((hr.alloc _).alloc _) ((hr'.alloc _).alloc _) hn hn').mono ?_
      rintro e w1 ⟨rfl, d, rfl⟩
      go_wp2_with fail
      go_ret
      exact ⟨ret_bool (by rw [HE.out]), below_n hb3 d⟩
    · have HE : Hid (eqBat a N L a N' M = false) := by show eqBat a N L a N' M = false; simp [eqBat, h2]
      have j1 : (N == N') = false := by simp [h2]
      clear h2
      go_enter Try.func16, Try.ntmps16
      go_wp2_with fail
      go_ret
      exact ⟨ret_bool (by rw [HE.out]), hb3⟩
  · have HE : Hid (eqBat a N L a' N' M = false) := by show eqBat a N L a' N' M = false; simp [eqBat, h1]
    have j1 : (a == a') = false := by simp [h1]
    clear h1
    go_enter Try.func16, Try.ntmps16
    go_wp2_with fail
    go_ret
    exact ⟨ret_bool (by rw [HE.out]), hb3⟩

end Go.Proofs.Ytkkamcdilpcehaa
