/-
  Messages: what they weigh, and copies.
-/
import Derived.Test.YtcfnomnhameleaaZE
import Derived.Test.YtcfnomnhameleaaZA
namespace Go.Proofs.Ytcfnomnhameleaa
open Go.RowKit

/-! ### weights -/
def txW : Nat → List TxD → Nat
  | n, [] => n
  | n, t :: r => if n < 1048576 then txW (n + t.k.size + t.v.size) r else n
theorem txW_cons (n : Nat) (t : TxD) (r : List TxD) : txW n (t :: r) = if n < 1048576 then txW (n + t.k.size + t.v.size) r else n := rfl
theorem txW_ge : ∀ (n : Nat) (L : List TxD), n ≤ txW n L
  | n, [] => Nat.le_refl _
  | n, t :: r => by
    unfold txW
    split
    · have := txW_ge (n + t.k.size + t.v.size) r; omega
    · exact Nat.le_refl _
theorem txW_le {M : Nat} : ∀ (n : Nat) (L : List TxD), (∀ t ∈ L, t.k.size ≤ M ∧ t.v.size ≤ M) → txW n L ≤ max n (1048576 + 2 * M)
  | n, [], _ => by unfold txW; omega
  | n, t :: r, h => by
    unfold txW
    have h1 := h t (by simp)
    split
    · have := txW_le (n + t.k.size + t.v.size) r fun u hu => h u (by simp [hu])
      omega
    · omega
theorem drop_tx {L : List TxD} {j : Nat} {t : TxD} (h : L[j]? = some t) : L.drop j = t :: L.drop (j + 1) := by
  rw [List.getElem?_eq_some_iff] at h
  obtain ⟨hl, h⟩ := h
  rw [← h, List.drop_eq_getElem_cons hl]

set_option maxRecDepth 100000 in
set_option maxHeartbeats 800000 in
theorem txWeight_is (A : Option Addr) (c n : Nat) (L : List TxD) (w : World) (hz : L.length = n) (hr : Rd w A (txs L)) (hs : ∀ t ∈ L, t.k.size ≤ 140737488351232 ∧ t.v.size ≤ 140737488351232) (hc : n ≤ c) (hm : c ≤ maxLen) :
    Calls Try.prog 80 #[.slice A n c] w fun e w' => e = .returned (.int .i64 ((txW n L : Nat) : Int)) ∧ ∃ d, w' = w.drewN d := by
  unfold maxLen at hm
  have HZ := Lib.hid hz
  have HS := Lib.hid hs
  clear hz hs
  go_enter Try.func80, Try.ntmps80
  go_wp2_with fail
  go_loopw [3, 4] (fun x i wr => ∃ j S d : Nat, i = .int .i64 j ∧ x = .int .i64 S ∧ j ≤ n ∧ S ≤ 9223372036854775807 ∧ Hid (txW S (L.drop j) = txW n L) ∧ wr = w.drewN d) (fun _ i _ => n - (intOf i).toNat)
  case atStart => exact ⟨0, n, 0, rfl, rfl, by omega, by omega, by show txW n (L.drop 0) = txW n L; rw [List.drop_zero], rfl⟩
  case round =>
    obtain ⟨j, S, d, rfl, rfl, hj, hS, HSe, rfl⟩ := hrel
    by_cases hlt : j < n
    · have i0 : (0 : Int) ≤ (j : Int) := by omega
      have i1 : (j : Int) < (n : Int) := by omega
      obtain ⟨b, off, ⟨ts, tq, tk, tv⟩, rfl, hbl, hat, c0, c1, c2, c3⟩ := hr.tx (i := j) (by rw [HZ.out]; exact hlt)
      obtain ⟨z1, z2⟩ := HS.out _ (List.mem_of_getElem? hat)
      have hd := drop_tx hat
      have hst := HSe.out
      rw [hd, txW_cons] at hst
      simp only at c2 c3 z1 z2 hst
      have HST := Lib.hid hst
      clear c0 c1 hat hst hd
      by_cases hlt20 : S < 1048576
      · have i2 : (S : Int) < 1048576 := by omega
        have s1 : IntKind.i64.wrap ((S : Int) + (tk.size : Int)) = (S : Int) + (tk.size : Int) := IntWalk.i64_in _ (by omega)
        have s2 : IntKind.i64.wrap ((S : Int) + (tk.size : Int) + (tv.size : Int)) = (S : Int) + (tk.size : Int) + (tv.size : Int) := IntWalk.i64_in _ (by omega)
        have HN : Hid (txW (S + tk.size + tv.size) (L.drop (j + 1)) = txW n L) := by
          show txW (S + tk.size + tv.size) (L.drop (j + 1)) = txW n L
          have h := HST.out
          rw [if_pos hlt20] at h
          exact h
        go_wp2_with fail
        go_quiet (fail)
        go_wp2_with fail
        go_roundw
        case rel => exact ⟨j + 1, S + tk.size + tv.size, _, by go_num, by go_num, by omega, by omega, HN, rfl⟩
        case measure => simp [intOf]; omega
      · have i2 : ¬ ((S : Int) < 1048576) := by omega
        have HN : Hid (S = txW n L) := by
          show S = txW n L
          have h := HST.out
          rw [if_neg hlt20] at h
          exact h
        go_wp2_with fail
        go_ret
        exact ⟨ret_int (by rw [← HN.out]), d, rfl⟩
    · have HN : Hid (S = txW n L) := by
        show S = txW n L
        have h := HSe.out
        rw [List.drop_eq_nil_of_le (by rw [HZ.out]; omega)] at h
        exact h
      have i1 : ¬ ((j : Int) < (n : Int)) := by omega
      go_wp2_with fail
      go_ret
      exact ⟨ret_int (by rw [← HN.out]), d, rfl⟩

/-! ### a message's weight -/
def msgW (m : MsgD) (a : MsgA) : Nat := txW a.nL m.L + (1 + a.nhB + a.nhP) + (1 + a.ncB + a.ncP + a.ncS) + a.nD
set_option maxRecDepth 100000 in
set_option maxHeartbeats 4000000 in
theorem rmw_any (m : MsgD) (a : MsgA) (w : World) (hi : MsgIn w m a) (ho : MsgOk m) (hf : MsgFew 140737488351232 a) :
    Calls Try.prog 60 #[msgV m a] w (Tells w.heap.size w (.int .i64 ((msgW m a : Nat) : Int))) := by
  unfold msgV
  obtain ⟨w1, hw1⟩ : ∃ w1, w1 = w.alloc (.cells #[.int .i64 m.k, .int .i64 m.f, .int .i64 m.t, .int .i64 m.d, .int .i64 m.ba, .int .i64 m.bn, .slice a.AL a.nL a.cL, .int .i64 m.ha, .int .i64 m.hr, .slice a.AhB a.nhB a.chB, .slice a.AhP a.nhP a.chP, .int .i64 m.ca, .int .i64 m.cr, .slice a.AcB a.ncB a.ccB, .slice a.AcP a.ncP a.ccP, .int .i64 m.cd, .slice a.AcS a.ncS a.ccS, .slice a.AD a.nD a.cD] 42) := ⟨_, rfl⟩
  have hb1 : Below w.heap.size w w1 := by rw [hw1]; exact (Below.refl _ _).alloc (Nat.le_refl _) _
  have hbx : Box w1 w.heap.size (msgC m a) := by rw [hw1]; exact box_new w (msgC m a) 42
  have HBX := Lib.hid hbx
  have HW := Lib.hid hw1
  have hsz : ∀ t ∈ m.L, t.k.size ≤ 140737488351232 ∧ t.v.size ≤ 140737488351232 := fun t ht => (ho.wL t ht).2.2
  have hle := txW_le (M := 140737488351232) a.nL m.L hsz
  have hfL := hf.sL
  have hfB := hf.shB
  have hfP := hf.shP
  have hfcB := hf.scB
  have hfcP := hf.scP
  have hfcS := hf.scS
  have hfD := hf.sD
  have HSZ := Lib.hid hsz
  have HI := Lib.hid hi
  have HI1 := Lib.hid (hi.below hb1)
  obtain ⟨X, hX⟩ : ∃ X, X = txW a.nL m.L := ⟨_, rfl⟩
  rw [← hX] at hle
  have HX := Lib.hid hX
  have s1 : IntKind.i64.wrap ((X : Int) + (((1 + a.nhB + a.nhP : Nat)) : Int)) = ((X + (1 + a.nhB + a.nhP) : Nat) : Int) := by rw [IntWalk.i64_in _ (by omega)]; omega
  have s2 : IntKind.i64.wrap (((X + (1 + a.nhB + a.nhP) : Nat) : Int) + (((1 + a.ncB + a.ncP + a.ncS : Nat)) : Int)) = ((X + (1 + a.nhB + a.nhP) + (1 + a.ncB + a.ncP + a.ncS) : Nat) : Int) := by rw [IntWalk.i64_in _ (by omega)]; omega
  have s3 : IntKind.i64.wrap (((X + (1 + a.nhB + a.nhP) + (1 + a.ncB + a.ncP + a.ncS) : Nat) : Int) + (a.nD : Int)) = ((X + (1 + a.nhB + a.nhP) + (1 + a.ncB + a.ncP + a.ncS) + a.nD : Nat) : Int) := by rw [IntWalk.i64_in _ (by omega)]; omega
  have c4 : ∀ x : Calm w1, x.val.cell? ⟨w.heap.size, 4, none⟩ = some (.int .i64 m.ba) := fun x => ((HBX.out.below x.ok HBX.out.1).2 4 _ rfl).1
  have c5 : ∀ x : Calm w1, x.val.cell? ⟨w.heap.size, 5, none⟩ = some (.int .i64 m.bn) := fun x => ((HBX.out.below x.ok HBX.out.1).2 5 _ rfl).1
  have c6 : ∀ x : Calm w1, x.val.cell? ⟨w.heap.size, 6, none⟩ = some (.slice a.AL a.nL a.cL) := fun x => ((HBX.out.below x.ok HBX.out.1).2 6 _ rfl).1
  have c7 : ∀ x : Calm w1, x.val.cell? ⟨w.heap.size, 7, none⟩ = some (.int .i64 m.ha) := fun x => ((HBX.out.below x.ok HBX.out.1).2 7 _ rfl).1
  have c8 : ∀ x : Calm w1, x.val.cell? ⟨w.heap.size, 8, none⟩ = some (.int .i64 m.hr) := fun x => ((HBX.out.below x.ok HBX.out.1).2 8 _ rfl).1
  have c9 : ∀ x : Calm w1, x.val.cell? ⟨w.heap.size, 9, none⟩ = some (.slice a.AhB a.nhB a.chB) := fun x => ((HBX.out.below x.ok HBX.out.1).2 9 _ rfl).1
  have c10 : ∀ x : Calm w1, x.val.cell? ⟨w.heap.size, 10, none⟩ = some (.slice a.AhP a.nhP a.chP) := fun x => ((HBX.out.below x.ok HBX.out.1).2 10 _ rfl).1
  have c11 : ∀ x : Calm w1, x.val.cell? ⟨w.heap.size, 11, none⟩ = some (.int .i64 m.ca) := fun x => ((HBX.out.below x.ok HBX.out.1).2 11 _ rfl).1
  have c12 : ∀ x : Calm w1, x.val.cell? ⟨w.heap.size, 12, none⟩ = some (.int .i64 m.cr) := fun x => ((HBX.out.below x.ok HBX.out.1).2 12 _ rfl).1
  have c13 : ∀ x : Calm w1, x.val.cell? ⟨w.heap.size, 13, none⟩ = some (.slice a.AcB a.ncB a.ccB) := fun x => ((HBX.out.below x.ok HBX.out.1).2 13 _ rfl).1
  have c14 : ∀ x : Calm w1, x.val.cell? ⟨w.heap.size, 14, none⟩ = some (.slice a.AcP a.ncP a.ccP) := fun x => ((HBX.out.below x.ok HBX.out.1).2 14 _ rfl).1
  have c15 : ∀ x : Calm w1, x.val.cell? ⟨w.heap.size, 15, none⟩ = some (.int .i64 m.cd) := fun x => ((HBX.out.below x.ok HBX.out.1).2 15 _ rfl).1
  have c16 : ∀ x : Calm w1, x.val.cell? ⟨w.heap.size, 16, none⟩ = some (.slice a.AcS a.ncS a.ccS) := fun x => ((HBX.out.below x.ok HBX.out.1).2 16 _ rfl).1
  have c17 : ∀ x : Calm w1, x.val.cell? ⟨w.heap.size, 17, none⟩ = some (.slice a.AD a.nD a.cD) := fun x => ((HBX.out.below x.ok HBX.out.1).2 17 _ rfl).1
  have HV : Hid (((X + (1 + a.nhB + a.nhP) + (1 + a.ncB + a.ncP + a.ncS) + a.nD : Nat) : Int) = ((msgW m a : Nat) : Int)) := by show _ = _; rw [msgW, ← HX.out]
  clear hw1 hbx hi hX hle hsz hf ho
  obtain ⟨q1, hq1⟩ : ∃ q1 : Int, ((X : Nat) : Int) = q1 := ⟨_, rfl⟩
  obtain ⟨q2, hq2⟩ : ∃ q2 : Int, (((1 + a.nhB + a.nhP : Nat)) : Int) = q2 := ⟨_, rfl⟩
  obtain ⟨q3, hq3⟩ : ∃ q3 : Int, (((1 + a.ncB + a.ncP + a.ncS : Nat)) : Int) = q3 := ⟨_, rfl⟩
  obtain ⟨q4, hq4⟩ : ∃ q4 : Int, ((X + (1 + a.nhB + a.nhP) : Nat) : Int) = q4 := ⟨_, rfl⟩
  obtain ⟨q5, hq5⟩ : ∃ q5 : Int, ((X + (1 + a.nhB + a.nhP) + (1 + a.ncB + a.ncP + a.ncS) : Nat) : Int) = q5 := ⟨_, rfl⟩
  obtain ⟨q6, hq6⟩ : ∃ q6 : Int, ((X + (1 + a.nhB + a.nhP) + (1 + a.ncB + a.ncP + a.ncS) + a.nD : Nat) : Int) = q6 := ⟨_, rfl⟩
  rw [hq1, hq2, hq4] at s1
  rw [hq3, hq4, hq5] at s2
  rw [hq5, hq6] at s3
  rw [hq6] at HV
  have HQ1 := Lib.hid hq1
  have HQ2 := Lib.hid hq2
  have HQ3 := Lib.hid hq3
  clear hq1 hq2 hq3 hq4 hq5 hq6
  go_enter Try.func60, Try.ntmps60
  go_wp2_with fail
  rw [← HW.out]
  refine wp_region_calm (by kernel_rfl) (by kernel_rfl) ?_
  repeat (go_big_quiet_step (first
      | (go_at_call 80; exact calm_drew (v := .int .i64 q1) (by rw [← HQ1.out, HX.out]; exact txWeight_is a.AL a.cL a.nL m.L _ HI.out.zL (HI1.out.rL.below (Calm.ok _)) HSZ.out HI.out.kL HI.out.xL))
      | (go_at_call 81; exact calm_tells (v := .int .i64 q2) (by rw [← HQ2.out]; exact rhw_any _ _ a.AhB a.chB a.nhB a.AhP a.chP a.nhP _ hfB hfP))
      | (go_at_call 82; exact calm_tells (v := .int .i64 q3) (by rw [← HQ3.out]; exact rcw_any _ _ a.AcB a.ccB a.ncB a.AcP a.ccP a.ncP _ a.AcS a.ccS a.ncS _ hfcB hfcP hfcS))))
  refine wpQuiet_nil ?_
  rintro _ ⟨x, rfl⟩
  go_wp2_with fail
  go_ret
  exact ⟨ret_int HV.out, hb1.trans (x.ok.mono hb1.size)⟩

/-- whether it is let go; if not its lists are short -/
def MHeavy (a : MsgA) (w : World) (en : Ending) (w' : World) : Prop := ∃ b : Bool, en = .returned (.bool b) ∧ Below w.heap.size w w' ∧ (b = false → MsgFew 2000 a)
theorem few_of {m : MsgD} {a : MsgA} (h : msgW m a ≤ 2000) : MsgFew 2000 a := by
  unfold msgW at h
  have := txW_ge a.nL m.L
  constructor <;> omega
set_option maxHeartbeats 1000000 in
theorem mheavy_any (m : MsgD) (a : MsgA) (w : World) (hi : MsgIn w m a) (ho : MsgOk m) (hf : MsgFew 140737488351232 a) :
    Calls Try.prog 34 #[msgV m a] w (MHeavy a w) := by
  obtain ⟨w1, hw1⟩ : ∃ w1, w1 = w.alloc (.cells #[.int .i64 m.k, .int .i64 m.f, .int .i64 m.t, .int .i64 m.d, .int .i64 m.ba, .int .i64 m.bn, .slice a.AL a.nL a.cL, .int .i64 m.ha, .int .i64 m.hr, .slice a.AhB a.nhB a.chB, .slice a.AhP a.nhP a.chP, .int .i64 m.ca, .int .i64 m.cr, .slice a.AcB a.ncB a.ccB, .slice a.AcP a.ncP a.ccP, .int .i64 m.cd, .slice a.AcS a.ncS a.ccS, .slice a.AD a.nD a.cD] 42) := ⟨_, rfl⟩
  have hb1 : Below w.heap.size w w1 := by rw [hw1]; exact (Below.refl _ _).alloc (Nat.le_refl _) _
  have hbx : Box w1 w.heap.size (msgC m a) := by rw [hw1]; exact box_new w (msgC m a) 42
  have HW := Lib.hid hw1
  have HI1 := Lib.hid (hi.below hb1)
  have hbxc0 := (hbx.2 0 _ rfl).1
  have hbxc1 := (hbx.2 1 _ rfl).1
  have hbxc2 := (hbx.2 2 _ rfl).1
  have hbxc3 := (hbx.2 3 _ rfl).1
  have hbxc4 := (hbx.2 4 _ rfl).1
  have hbxc5 := (hbx.2 5 _ rfl).1
  have hbxc6 := (hbx.2 6 _ rfl).1
  have hbxc7 := (hbx.2 7 _ rfl).1
  have hbxc8 := (hbx.2 8 _ rfl).1
  have hbxc9 := (hbx.2 9 _ rfl).1
  have hbxc10 := (hbx.2 10 _ rfl).1
  have hbxc11 := (hbx.2 11 _ rfl).1
  have hbxc12 := (hbx.2 12 _ rfl).1
  have hbxc13 := (hbx.2 13 _ rfl).1
  have hbxc14 := (hbx.2 14 _ rfl).1
  have hbxc15 := (hbx.2 15 _ rfl).1
  have hbxc16 := (hbx.2 16 _ rfl).1
  have hbxc17 := (hbx.2 17 _ rfl).1
  obtain ⟨W, hWe⟩ : ∃ W, W = msgW m a := ⟨_, rfl⟩
  have HWE := Lib.hid hWe
  clear hw1 hbx hi hWe
  unfold msgV
  go_enter Try.func34, Try.ntmps34
  go_wp2_with fail
  rw [← HW.out]
  go_wp2_with fail
  refine (rmw_any m a _ HI1.out ho hf).mono ?_
  rw [← HWE.out]
  rintro e w2 ⟨rfl, hb2⟩
  have hb3 := hb1.trans (hb2.mono hb1.size)
  by_cases h : 2000 < (W : Int)
  · go_wp2_with fail
    go_ret
    exact ⟨true, ret_bool (by first | rfl | (simp; done) | (simp [h]; done)), hb3, fun h => by cases h⟩
  · go_wp2_with fail
    go_ret
    exact ⟨false, ret_bool (by first | rfl | (simp; done) | (simp [h]; done)), hb3, fun _ => few_of (by rw [← HWE.out]; omega)⟩


end Go.Proofs.Ytcfnomnhameleaa
