/-
  The landed package log's small functions: fail, count, put, All, clean, replace.
-/
import Derived.Test.YtaccmjgnggepjaaKZJ
import Derived.Deep.RegionLaw
import Derived.Deep.RegionHeld3
import Derived.BigQuiet
namespace Go.Proofs.Ytaccmjgnggepjaa
open Go.RowKit

theorem fail_is {gl gd : Nat} {F Fd : Nat → Prop} {D : PD} {p vL : Value} {z : Int} {l : List ByteArray} (x : Int) (w : World) (h : LogAt w gl gd F Fd D p vL z l) :
    Calls Try.prog 59 #[.pointer (some ⟨gl, 0, none⟩), .int .i64 x] w fun e w' => e = .returned (.int .i64 x) ∧ LogAt w' gl gd F Fd D (.pointer none) vL z l ∧ Touch F w w' := by
  have c0 := h.c0
  have f0 := h.fz 0
  have HH := Lib.hid (h.set0 (.pointer none))
  have HT : Hid (Touch F w (w.setCell ⟨gl, 0, none⟩ (.pointer none))) := (Touch.refl F w).set (.inl h.here) _
  clear h
  go_enter Try.func59, Try.ntmps59
  go_wp2_with fail
  go_ret
  exact ⟨rfl, HH.out, HT.out⟩

/-- what records count behind others that count t -/
def countP (t : Nat) (l : List ByteArray) : Int × Int := if bigS l = true then (0, 1) else if 524288 < t + sizeL l then (0, 8) else (((t + sizeL l : Nat) : Int), 0)
theorem bigS_yes {l : List ByteArray} {s : ByteArray} (h : s ∈ l) (hs : 4096 < s.size) : bigS l = true := by
  rw [bigS, List.any_eq_true]
  exact ⟨s, h, decide_eq_true hs⟩
theorem bigS_not {l : List ByteArray} (h : ∀ s ∈ l, s.size ≤ 4096) : bigS l = false := by
  rw [bigS, List.any_eq_false]
  intro s hs
  have := h s hs
  simp
  omega
set_option maxHeartbeats 1000000 in
theorem count_is (t : Nat) (A : Option Addr) (n c : Nat) (l : List ByteArray) (w : World) (hz : l.length = n) (hr : Rd w A (strs l)) (ht : t ≤ 524288) (hn : n ≤ 1000000) :
    Calls Try.prog 66 #[.int .i64 t, .slice A n c] w fun e w' => e = .returned (.tuple #[.int .i64 (countP t l).1, .int .i64 (countP t l).2]) ∧ w = w' := by
  have HZ := Lib.hid hz
  have HR := Lib.hid hr
  obtain ⟨R, hR⟩ : ∃ R, countP t l = R := ⟨_, rfl⟩
  rw [hR]
  have HRR := Lib.hid hR
  clear hz hr hR
  go_enter Try.func66, Try.ntmps66
  go_wp2_with fail
  go_loop [0, 10] (fun u i => ∃ k tt : Nat, i = .int .i64 k ∧ u = .int .i64 tt ∧ k ≤ n ∧ tt ≤ 524288 + k * 4112 ∧ Hid (tt + sizeL (l.drop k) = t + sizeL l) ∧ Hid (∀ s ∈ l.take k, s.size ≤ 4096)) (fun _ i => n - (intOf i).toNat)
  case atStart => exact ⟨0, t, rfl, rfl, by omega, by omega, by rw [List.drop_zero]; rfl, by rw [List.take_zero]; intro s hs; simp at hs⟩
  case round =>
    obtain ⟨k, tt, rfl, rfl, hk, htt, HG, HB⟩ := hrel
    have i0 : (0 : Int) ≤ (k : Int) := by omega
    by_cases hlt : k < n
    · have i1 : (k : Int) < (n : Int) := by omega
      obtain ⟨b, off, rfl, _, hcl⟩ := HR.out.open_ (by rw [strs_length, HZ.out]; omega)
      have hkl : k < l.length := by rw [HZ.out]; exact hlt
      obtain ⟨x, hx⟩ : ∃ x, x = l[k] := ⟨_, rfl⟩
      have e0 : w.cell? ⟨b, off + k, none⟩ = some (.string x) := by rw [hx, hcl k _ (strs_at hkl)]; simp [hkl]
      have hat : l[k]? = some x := by rw [hx]; simp [hkl]
      obtain ⟨nx, hnx⟩ : ∃ nx, x.size = nx := ⟨_, rfl⟩
      have e9 : (x.size : Int) = (nx : Int) := by rw [hnx]
      by_cases hbig : 4096 < nx
      · have j1 : (4096 : Int) < (nx : Int) := by omega
        have HE : Hid (R = (0, 1)) := by
          show _ = _
          rw [← HRR.out, countP, if_pos (bigS_yes (List.mem_of_getElem? hat) (by omega))]
        clear hcl hx hat hnx
        go_wp2_with fail
        go_ret2
        exact ⟨by rw [HE.out]; rfl, rfl⟩
      · have j1 : ¬ ((4096 : Int) < (nx : Int)) := by omega
        have hg := HG.out
        rw [List.drop_eq_getElem_cons hkl, ← hx, sizeL, hnx] at hg
        have HG2 : Hid (tt + (nx + 16) + sizeL (l.drop (k + 1)) = t + sizeL l) := by show _ = _; omega
        have HB2 : Hid (∀ s ∈ l.take (k + 1), s.size ≤ 4096) := by
          intro s hs
          rw [take_up hat] at hs
          rcases List.mem_append.1 hs with hs | hs
          · exact HB.out s hs
          · rw [List.mem_singleton] at hs; subst hs; omega
        have e1 : IntKind.i64.wrap ((nx : Int) + 16) = ((nx + 16 : Nat) : Int) := by rw [IntKind.wrap_i64]; omega
        have e2 : IntKind.i64.wrap ((tt : Int) + ((nx + 16 : Nat) : Int)) = ((tt + (nx + 16) : Nat) : Int) := by rw [IntKind.wrap_i64]; omega
        clear hcl hx hat hnx hg
        go_wp2_with fail
        go_round
        case rel => exact ⟨k + 1, tt + (nx + 16), by go_num, by first | rfl | go_num, by omega, by omega, HG2.out, HB2.out⟩
        case measure => simp [intOf]; omega
    · have i1 : ¬ ((k : Int) < (n : Int)) := by omega
      have hg := HG.out
      rw [List.drop_of_length_le (by rw [HZ.out]; omega), sizeL, Nat.add_zero] at hg
      have hb := HB.out
      rw [List.take_of_length_le (by rw [HZ.out]; omega)] at hb
      have hr1 : R = if 524288 < t + sizeL l then (0, 8) else (((t + sizeL l : Nat) : Int), 0) := by
        rw [← HRR.out, countP, if_neg (by rw [bigS_not hb]; decide)]
      rw [← hg] at hr1
      by_cases hf : 524288 < tt
      · have j1 : (524288 : Int) < (tt : Int) := by omega
        rw [if_pos hf] at hr1
        have HE := Lib.hid hr1
        clear hr1 hg hb
        go_wp2_with fail
        go_ret2
        exact ⟨by rw [HE.out]; rfl, rfl⟩
      · have j1 : ¬ ((524288 : Int) < (tt : Int)) := by omega
        rw [if_neg hf] at hr1
        have HE := Lib.hid hr1
        clear hr1 hg hb
        go_wp2_with fail
        go_ret2
        exact ⟨by rw [HE.out]; rfl, rfl⟩

/-! ### put -/
theorem recB_len (s : ByteArray) : (recB s).length = s.size + 3 := by simp [recB, byt_length]
theorem recsB_append (a b : List ByteArray) : recsB (a ++ b) = recsB a ++ recsB b := by
  induction a with
  | nil => rfl
  | cons s l ih => simp only [List.cons_append, recsB, ih, List.append_assoc]
theorem recsB_one (s : ByteArray) : recsB [s] = recB s := by simp [recsB]
theorem recsB_len : ∀ (l : List ByteArray), (recsB l).length ≤ sizeL l
  | [] => Nat.le_refl _
  | s :: l => by
    have := recsB_len l
    simp only [recsB, List.length_append, recB_len, sizeL]
    omega
theorem take_recs {l : List ByteArray} {k : Nat} {x : ByteArray} (h : l[k]? = some x) : recsB (l.take (k + 1)) = recsB (l.take k) ++ recB x := by
  rw [take_up h, recsB_append, recsB_one]
theorem recs_u8 (xs : List Int) (nx : Nat) (x : ByteArray) (h : x.size = nx) : (u8s xs ++ [Value.int .u8 ((nx / 256 : Nat) : Int), .int .u8 ((nx % 256 : Nat) : Int)]) ++ Lib.strCells x ++ [.int .u8 1] = u8s (xs ++ recB x) := by
  subst h
  rw [← byt_cells, recB, u8s_append]
  simp [u8s]

set_option maxRecDepth 100000 in
set_option maxHeartbeats 4000000 in
theorem lput_is (A : Option Addr) (n c : Nat) (l : List ByteArray) (w : World) (hz : l.length = n) (hr : Rd w A (strs l)) (hs : ∀ s ∈ l, s.size ≤ 4096) (hn : n ≤ 100000) :
    Calls Try.prog 75 #[.slice none 0 0, .slice A n c] w (Made w.heap.size 5 w (u8s (recsB l))) := by
  have HZ := Lib.hid hz
  have HR := Lib.hid hr
  have HS := Lib.hid hs
  clear hz hr hs
  go_enter Try.func75, Try.ntmps75
  go_wp2_with fail
  go_loopw [0, 9] (fun v i wr => ∃ k m : Nat, i = .int .i64 k ∧ k ≤ n ∧ m ≤ k * 4099 ∧ Hid ((recsB (l.take k)).length = m) ∧ wr.ownsRow w.heap.size 5 1 v m (u8s (recsB (l.take k))) ∧ Below w.heap.size w wr) (fun _ i _ => n - (intOf i).toNat)
  case atStart => exact ⟨0, 0, rfl, by omega, by omega, by rw [List.take_zero]; rfl, by rw [List.take_zero]; exact World.ownsRow_nil _ _ _ _, Below.refl _ _⟩
  case round =>
    obtain ⟨k, m, rfl, hk, hm, HM, hown, hb⟩ := hrel
    have i0 : (0 : Int) ≤ (k : Int) := by omega
    by_cases hlt : k < n
    · have i1 : (k : Int) < (n : Int) := by omega
      obtain ⟨b, off, rfl, _, hcl⟩ := (HR.out.below hb).open_ (by rw [strs_length, HZ.out]; omega)
      have hkl : k < l.length := by rw [HZ.out]; exact hlt
      obtain ⟨x, hx⟩ : ∃ x, x = l[k] := ⟨_, rfl⟩
      have e0 : wr.cell? ⟨b, off + k, none⟩ = some (.string x) := by rw [hx, hcl k _ (strs_at hkl)]; simp [hkl]
      have hat : l[k]? = some x := by rw [hx]; simp [hkl]
      have hsx : x.size ≤ 4096 := HS.out x (List.mem_of_getElem? hat)
      obtain ⟨nx, hnx⟩ : ∃ nx, x.size = nx := ⟨_, rfl⟩
      have e9 : (x.size : Int) = (nx : Int) := by rw [hnx]
      rw [hnx] at hsx
      have hl3 : (recsB (l.take (k + 1))).length = m + 2 + nx + 1 := by rw [take_recs hat, List.length_append, recB_len, HM.out, hnx]; omega
      have hu3 : u8s (recsB (l.take k)) ++ [Value.int .u8 ((nx / 256 : Nat) : Int), .int .u8 ((nx % 256 : Nat) : Int)] ++ Lib.strCells x ++ [.int .u8 1] = u8s (recsB (l.take (k + 1))) := by rw [take_recs hat]; exact recs_u8 _ nx x hnx
      have HL3 := Lib.hid hl3
      have HU3 := Lib.hid hu3
      have HNX := Lib.hid hnx
      have hzw := hb.size
      have e1 : IntKind.u8.wrap ((nx : Int) / 256) = ((nx / 256 : Nat) : Int) := by rw [IntKind.wrap_u8]; omega
      have e2 : IntKind.u8.wrap (nx : Int) = ((nx % 256 : Nat) : Int) := by rw [IntKind.wrap_u8]; omega
      clear hcl hx hat hnx hl3 hu3
      go_wp2_with (first
        | (at_builtin; refine wpList_app_list _ rfl _ _ 48 rfl w.heap.size 5 (.int .u8 0) 1 Try.underlying48 info_u8 rfl (by decide) _ m _ rfl (hown.alloc _) (some ⟨wr.heap.size, 0, none⟩) 2 2 [.int .u8 ((nx / 256 : Nat) : Int), .int .u8 ((nx % 256 : Nat) : Int)] rfl rfl (rd_new wr [.int .u8 ((nx / 256 : Nat) : Int), .int .u8 ((nx % 256 : Nat) : Int)] _) (by intro u hu; simp at hu; rcases hu with rfl | rfl <;> rfl) (by omega) (by simp; omega) ?_))
      intro v1 w1 ho1 hb1
      have hx1 : Below w.heap.size w w1 := (hb.alloc (by omega) _).trans hb1
      clear hown
      go_wp2_with (first
        | (at_builtin; refine wpList_app_text _ rfl _ _ 48 9 rfl w.heap.size 5 Try.underlying48 Try.underlying9 info_u8 _ (m + 2) _ rfl ho1 x rfl (by omega) hx1.size ?_))
      intro v2 w2 ho2 hb2
      rw [HNX.out] at ho2
      have hx2 : Below w.heap.size w w2 := hx1.trans hb2
      have hz2 := hx2.size
      clear ho1
      go_wp2_with (first
        | (at_builtin; refine wpList_app_one _ rfl _ _ 48 rfl w.heap.size 5 (.int .u8 0) 1 Try.underlying48 info_u8 rfl (by decide) _ (m + 2 + nx) _ rfl (ho2.alloc _) w2.heap.size (.int .u8 1) rfl (cell_new _ _ _) rfl (by omega) (by simp; omega) ?_))
      intro v3 w3 ho3 hb3
      have hx3 : Below w.heap.size w w3 := (hx2.alloc hz2 _).trans hb3
      have ho4 := own_conv ho3 (show _ = u8s (recsB (l.take (k + 1))) by rw [← HU3.out]; simp) rfl
      clear ho3 ho2
      go_wp2_with fail
      go_roundw
      case rel => exact ⟨k + 1, m + 2 + nx + 1, by go_num, by omega, by omega, HL3.out, ho4, hx3⟩
      case measure => simp [intOf]; omega
    · have i1 : ¬ ((k : Int) < (n : Int)) := by omega
      have hown2 := hown
      rw [List.take_of_length_le (by rw [HZ.out]; omega)] at hown2
      have hm2 := HM.out
      rw [List.take_of_length_le (by rw [HZ.out]; omega)] at hm2
      have HO := Lib.hid (own_cast hown2 (show m = (u8s (recsB l)).length by rw [u8s_length, hm2]))
      clear hown hown2 hm2
      go_wp2_with fail
      go_ret
      exact ⟨_, rfl, HO.out, hb⟩

end Go.Proofs.Ytaccmjgnggepjaa
/-
  The landed package keep's small functions: isKey, count, setting, parse, find, Get, Keys, fail.
-/
namespace Go.Proofs.Ytaccmjgnggepjaa
open Go.RowKit

def okK (s : ByteArray) : Bool := decide (1 ≤ s.size) && decide (s.size ≤ 32)
theorem isKey_is (s : ByteArray) (w : World) : Calls Try.prog 37 #[.string s] w fun e w' => e = .returned (.bool (okK s)) ∧ w = w' := by
  obtain ⟨n, hn⟩ : ∃ n, s.size = n := ⟨_, rfl⟩
  have e9 : (s.size : Int) = (n : Int) := by rw [hn]
  unfold okK
  rw [hn]
  by_cases h1 : 1 ≤ n
  · have i1 : (1 : Int) ≤ (n : Int) := by omega
    by_cases h2 : n ≤ 32
    · have i2 : (n : Int) ≤ 32 := by omega
      rw [decide_eq_true h1, decide_eq_true h2]
      clear hn h1 h2
      go_enter Try.func37, Try.ntmps37
      go_wp2
      go_ret
      exact ⟨rfl, rfl⟩
    · have i2 : ¬ ((n : Int) ≤ 32) := by omega
      rw [decide_eq_true h1, decide_eq_false h2]
      clear hn h1 h2
      go_enter Try.func37, Try.ntmps37
      go_wp2
      go_ret
      exact ⟨rfl, rfl⟩
  · have i1 : ¬ ((1 : Int) ≤ (n : Int)) := by omega
    rw [decide_eq_false h1, Bool.false_and]
    clear hn h1
    go_enter Try.func37, Try.ntmps37
    go_wp2
    go_ret
    exact ⟨rfl, rfl⟩

theorem kcount_is (a b : ByteArray) (w : World) (ha : a.size ≤ 1000000) (hb : b.size ≤ 140737488355328) : Calls Try.prog 55 #[.string a, .string b] w fun e w' => e = .returned (.int .i64 ((a.size + b.size + 64 : Nat) : Int)) ∧ w = w' := by
  obtain ⟨n, hn⟩ : ∃ n, a.size = n := ⟨_, rfl⟩
  obtain ⟨m, hm⟩ : ∃ m, b.size = m := ⟨_, rfl⟩
  have e9 : (a.size : Int) = (n : Int) := by rw [hn]
  have e8 : (b.size : Int) = (m : Int) := by rw [hm]
  have e1 : IntKind.i64.wrap ((n : Int) + (m : Int)) = (n : Int) + (m : Int) := IntWalk.i64_in _ (by omega)
  have e2 : IntKind.i64.wrap ((n : Int) + (m : Int) + 64) = (n : Int) + (m : Int) + 64 := IntWalk.i64_in _ (by omega)
  have e3 : wrap64 ((n : Int) + (m : Int) + 64) = (n : Int) + (m : Int) + 64 := by unfold wrap64; omega
  rw [hn, hm]
  clear hn hm ha hb
  go_enter Try.func55, Try.ntmps55
  go_wp2
  go_ret
  exact ⟨congrArg (fun x => Ending.returned (Value.int IntKind.i64 x)) (show (n : Int) + (m : Int) + 64 = ((n + m + 64 : Nat) : Int) by omega), rfl⟩

theorem kcut_is (c s : ByteArray) (w : World) : Calls Try.prog 46 #[.string s, .string c] w fun e w' => e = .returned (.tuple #[.string (cutP c s), .bool (preP c s)]) ∧ w' = w := Try.strings_CutPrefix s c w

theorem kfail_is {K : LogK} (hK : LogC K) {gk gl gd : Nat} {F FL : Nat → Prop} {S : K.LS} {p vP : Value} {z zs : Int} {l : List PP} (x : Int) (w : World) (h : KeepAt K w gk gl gd F FL S p vP z zs l) :
    Calls Try.prog 36 #[.pointer (some ⟨gk, 0, none⟩), .int .i64 x] w fun e w' => e = .returned (.int .i64 x) ∧ KeepAt K w' gk gl gd F FL S (.pointer none) vP z zs l ∧ Touch F w w' := by
  have c0 := h.c0
  have f0 := h.fz 0
  have HH := Lib.hid (h.set0 hK (.pointer none))
  have HT : Hid (Touch F w (w.setCell ⟨gk, 0, none⟩ (.pointer none))) := (Touch.refl F w).set (.inl h.here) _
  clear h
  go_enter Try.func36, Try.ntmps36
  go_wp2_with fail
  go_ret
  exact ⟨rfl, HH.out, HT.out⟩

/-- (*Keep).find -/
theorem kfind_is {K : LogK} {gk gl gd : Nat} {F FL : Nat → Prop} {S : K.LS} {p vP : Value} {z zs : Int} {l : List PP} (s : ByteArray) (w : World) (h : KeepAt K w gk gl gd F FL S p vP z zs l) (hr : RiseN (keysP l)) (hn : l.length ≤ 4096) :
    Calls Try.prog 29 #[.pointer (some ⟨gk, 0, none⟩), .string s] w fun e w' => e = .returned (.tuple #[.int .i64 (posP l s : Nat), .bool (hasP l s)]) ∧ Below w.heap.size w w' := by
  have c0 := h.c2
  obtain ⟨q, hq⟩ : ∃ q, q = posP l s := ⟨_, rfl⟩
  obtain ⟨b, hb1⟩ : ∃ b, b = hasP l s := ⟨_, rfl⟩
  have hcon : Calls Try.prog 50 #[vP, .string s, .func (.func 51) #[] #[]] w fun e w' => e = .returned (.tuple #[.int .i64 (q : Nat), .bool b]) ∧ Below w.heap.size w w' := by
    rw [hq, hb1]
    rcases Nat.eq_zero_or_pos l.length with h0 | h0
    · have hms : l = [] := List.eq_nil_of_length_eq_zero h0
      subst hms
      rcases h.row.2 with ⟨hv, _⟩ | ⟨gr, cap, cur, hv, hb, hg, hnc, hcm, hcs, ht⟩
      · subst hv
        exact searchK_none s w 0
      · subst hv
        exact searchK gr cap 0 [] s w rfl (by omega) (fun i v hv => by simp [cellsP] at hv) (fun h => by omega) rise_nil
    · obtain ⟨gr, cap, rfl, hnc, hcm, hne, hF⟩ := h.rowAt h0
      exact searchK gr cap l.length l s w rfl (by omega) (fun i v hv => by have := h.row.cells (g := gr) rfl i v hv; rwa [Addr.add_lit, Nat.zero_add] at this) (fun _ => h.lt _ hF) hr
  have HC := Lib.hid hcon
  rw [← hq, ← hb1]
  clear hcon hq hb1 h
  go_enter Try.func29, Try.ntmps29
  go_wp2_with (go_at_call 50; refine HC.out.mono ?_; rintro e w' ⟨rfl, hb⟩)
  go_ret2
  exact ⟨rfl, hb⟩

/-- (*Keep).Get -/
theorem kget_is {K : LogK} {gk gl gd : Nat} {F FL : Nat → Prop} {S : K.LS} {p vP : Value} {z zs : Int} {l : List PP} (s : ByteArray) (w : World) (h : KeepAt K w gk gl gd F FL S p vP z zs l) (hr : RiseN (keysP l)) (hn : l.length ≤ 4096) (hK : LogC K) :
    Calls Try.prog 13 #[.pointer (some ⟨gk, 0, none⟩), .string s] w fun e w' => e = .returned (.tuple #[.string (getP l s).1, .int .i64 (getP l s).2]) ∧ Below w.heap.size w w' := by
  have HF := Lib.hid (kfind_is s w h hr hn)
  obtain ⟨R, hR⟩ : ∃ R, getP l s = R := ⟨_, rfl⟩
  rw [hR]
  rw [getP] at hR
  have HB : Hid (∀ w', Below w.heap.size w w' → KeepAt K w' gk gl gd F FL S p vP z zs l) := fun w' hb => h.below hK hb
  cases hh : hasP l s with
  | false =>
    rw [hh] at hR HF
    rw [if_neg (by decide)] at hR
    subst hR
    clear h hh HB
    go_enter Try.func13, Try.ntmps13
    go_wp2_with (go_at_call 29; refine HF.out.mono ?_; rintro e w' ⟨rfl, hb⟩)
    go_ret2
    exact ⟨rfl, hb⟩
  | true =>
    rw [hh] at hR HF
    rw [if_pos rfl] at hR
    obtain ⟨v, hv⟩ := hasP_at hh
    rw [hv] at hR
    simp only [Option.map_some, Option.getD_some] at hR
    subst hR
    have hlt := hasP_lt hh
    obtain ⟨q, hq⟩ : ∃ q, posP l s = q := ⟨_, rfl⟩
    rw [hq] at hv hlt HF
    obtain ⟨n, hnn⟩ : ∃ n, l.length = n := ⟨_, rfl⟩
    rw [hnn] at hlt
    have HN := Lib.hid hnn
    have HV := Lib.hid hv
    clear h hh hq hv hnn hn
    go_enter Try.func13, Try.ntmps13
    go_upto_region 1 with fail
    go_wp2_with (fail)
    refine HF.out.mono ?_
    rintro e w' ⟨rfl, hb⟩
    have h2 := HB.out w' hb
    obtain ⟨gr, cap, rfl, hnc, _, _, _⟩ := h2.rowAt (by rw [HN.out]; omega)
    have c2 := h2.c2
    rw [HN.out] at c2
    have hc := h2.row.cells (g := gr) rfl _ _ (cellsP_at HV.out (j := 1) rfl)
    rw [Addr.add_lit, Nat.zero_add] at hc
    have i0 : (0 : Int) ≤ (q : Int) := by omega
    have i1 : (q : Int) < (n : Int) := by omega
    clear h2 hr
    go_wp2_with (fail)
    go_ret2
    exact ⟨rfl, hb⟩

end Go.Proofs.Ytaccmjgnggepjaa
/-
  The landed package keep: setting, parse, Keys.
-/
namespace Go.Proofs.Ytaccmjgnggepjaa
open Go.RowKit

theorem conv_rdK (w : World) {A : Option Addr} {n : Nat} {zs : List Int} (hz : zs.length = n) (h0 : 0 < n) (hr : Rd w A (u8s zs)) (c : Nat) :
    (convert 48 9 (.slice A n c)).run Try.prog w = .ok (.string (strOfNums zs)) w := by
  subst hz
  obtain ⟨b, off, rfl, _, hc⟩ := hr.open_ (by rw [u8s_length]; exact h0)
  refine run_convert_bytes_arg w 48 5 Try.underlying48 Try.underlying5 b off zs.length c zs rfl (fun i hi => ?_) 9 Try.underlying9
  rw [hc i _ (u8s_at hi)]
  rw [List.getD_eq_getElem?_getD]

set_option maxHeartbeats 1000000 in
theorem setting_is (p : PP) (w : World) (h : OkP p) : Calls Try.prog 34 #[.string p.1, .string p.2] w fun e w' => e = .returned (.string (setR p)) ∧ Below w.heap.size w w' := by
  obtain ⟨k, v⟩ := p
  obtain ⟨h1, h2, h3⟩ := h
  simp only at h1 h2 h3
  have hcv := conv_rdK (w.alloc (.cells #[.int .u8 (k.size : Int)] 5)) (A := some ⟨w.heap.size, 0, none⟩) (zs := [(k.size : Int)]) (n := 1) rfl (by omega) (rd_new w _ _) 1
  obtain ⟨q, hq⟩ : ∃ q, strOfNums [(k.size : Int)] = q := ⟨_, rfl⟩
  have hqs : q.size = 1 := by rw [← hq]; rfl
  have hR : setR (k, v) = ((bPlus ++ q) ++ k) ++ v := by rw [← hq]; rfl
  rw [hq] at hcv
  obtain ⟨n, hn⟩ : ∃ n, k.size = n := ⟨_, rfl⟩
  obtain ⟨m, hm⟩ : ∃ m, v.size = m := ⟨_, rfl⟩
  rw [hn] at hcv h1 h2 h3
  rw [hm] at h3
  rw [hR]
  have e1 : IntKind.u8.wrap (n : Int) = (n : Int) := by rw [IntKind.wrap_u8]; omega
  have s1 : (⟨#[43]⟩ : ByteArray).size = 1 := rfl
  have s2 : ((⟨#[43]⟩ : ByteArray) ++ q).size = 2 := by rw [ByteArray.size_append, s1, hqs]
  have s3 : (((⟨#[43]⟩ : ByteArray) ++ q) ++ k).size = 2 + n := by rw [ByteArray.size_append, s2, hn]
  show Calls _ _ _ _ fun e w' => e = .returned (.string ((((⟨#[43]⟩ : ByteArray) ++ q) ++ k) ++ v)) ∧ Below w.heap.size w w'
  clear hR hq
  have HB : Hid (Below w.heap.size w (w.alloc (.cells #[.int .u8 (n : Int)] 5))) := (Below.refl _ _).alloc (Nat.le_refl _) _
  go_enter Try.func34, Try.ntmps34
  go_wp2_with fail
  go_ret
  exact ⟨rfl, HB.out⟩

/-! ### parse -/
def parseV (r : ByteArray) : ByteArray × ByteArray × Bool :=
  match parseP r with
  | some p => (p.1, p.2, true)
  | none => (ByteArray.empty, ByteArray.empty, false)
theorem lenP_at {c : ByteArray} (h : 0 < c.size) : ((c[0]'h).toNat : Nat) = lenP c := by
  unfold lenP
  rw [List.getD_eq_getElem?_getD, byt_at h]
  simp
set_option maxHeartbeats 1000000 in
theorem parse_is (r : ByteArray) (w : World) (hr : r.size ≤ 1000000) : Calls Try.prog 48 #[.string r] w fun e w' => e = .returned (.tuple #[.string (parseV r).1, .string (parseV r).2.1, .bool (parseV r).2.2]) ∧ Below w.heap.size w w' := by
  have HC := kcut_is bPlus r w
  have hcs : (cutP bPlus r).size ≤ r.size := by
    rw [size_data, size_data r]
    unfold cutP Lib.trimPrefix
    split
    · simp
    · simp
  obtain ⟨R, hR⟩ : ∃ R, parseV r = R := ⟨_, rfl⟩
  rw [hR]
  unfold parseV parseP at hR
  obtain ⟨c, hc⟩ : ∃ c, cutP bPlus r = c := ⟨_, rfl⟩
  rw [hc] at hR HC hcs
  obtain ⟨n, hn⟩ : ∃ n, c.size = n := ⟨_, rfl⟩
  rw [hn] at hR hcs
  have e9 : (c.size : Int) = (n : Int) := by rw [hn]
  cases hp : preP bPlus r with
  | false =>
    rw [hp] at hR HC
    rw [if_pos rfl] at hR
    subst hR
    have HCC := Lib.hid HC
    clear HC hp hc hn
    go_enter Try.func48, Try.ntmps48
    go_wp2_with (go_at_call 46; refine HCC.out.mono ?_; rintro e w' ⟨rfl, rfl⟩)
    go_ret3
    exact ⟨rfl, Below.refl _ _⟩
  | true =>
    rw [hp] at hR HC
    rw [if_neg (by decide)] at hR
    have HCC := Lib.hid HC
    clear HC
    by_cases h1 : n < 1
    · rw [if_pos h1] at hR
      subst hR
      have i1 : (n : Int) < 1 := by omega
      clear hp hc hn h1
      go_enter Try.func48, Try.ntmps48
      go_wp2_with (go_at_call 46; refine HCC.out.mono ?_; rintro e w' ⟨rfl, rfl⟩)
      go_ret3
      exact ⟨rfl, Below.refl _ _⟩
    · rw [if_neg h1] at hR
      have i1 : ¬ ((n : Int) < 1) := by omega
      have hpos : 0 < c.size := by omega
      have hl := lenP_at hpos
      obtain ⟨m, hm⟩ : ∃ m, lenP c = m := ⟨_, rfl⟩
      have hm2 : (c[0]'hpos).toNat = m := by rw [hl, hm]
      have hm8 : m < 256 := by rw [← hm2]; exact (c[0]'hpos).toNat_lt
      rw [hm] at hR
      have e1 : IntKind.i64.wrap ((m : Nat) : Int) = (m : Int) := IntWalk.i64_in _ (by omega)
      have e2 : IntKind.i64.wrap ((n : Int) - 1) = (n : Int) - 1 := IntWalk.i64_in _ (by omega)
      have e3 : IntKind.i64.wrap (1 + (m : Int)) = 1 + (m : Int) := IntWalk.i64_in _ (by omega)
      by_cases h2 : n - 1 < m
      · rw [if_pos h2] at hR
        subst hR
        have i2 : (n : Int) - 1 < (m : Int) := by omega
        clear hp hc h1 h2 hl hm
        go_enter Try.func48, Try.ntmps48
        go_wp2_with (go_at_call 46; refine HCC.out.mono ?_; rintro e w' ⟨rfl, rfl⟩)
        go_ret3
        exact ⟨rfl, Below.refl _ _⟩
      · rw [if_neg h2] at hR
        have i2 : ¬ ((n : Int) - 1 < (m : Int)) := by omega
        have HR := Lib.hid hR
        have k1 : (1 : Int) ≤ 1 + (m : Int) := by omega
        have k2 : 1 + (m : Int) ≤ (n : Int) := by omega
        have k3 : (0 : Int) ≤ 1 + (m : Int) := by omega
        have k4 : (1 + (m : Int)).toNat = 1 + m := by omega
        clear hp hc h1 h2 hl hm hR
        go_enter Try.func48, Try.ntmps48
        go_wp2_with (go_at_call 46; refine HCC.out.mono ?_; rintro e w' ⟨rfl, rfl⟩)
        go_quiet (fail)
        go_wp2_with fail
        go_ret3
        rw [← HR.out]
        exact ⟨rfl, below_n (Below.refl _ _) _⟩

end Go.Proofs.Ytaccmjgnggepjaa
/-
  The landed package keep: Keys, check.
-/
namespace Go.Proofs.Ytaccmjgnggepjaa
open Go.RowKit

section
variable {K : LogK} {w : World} {gr n cap : Nat} {gk gl gd : Nat} {F FL : Nat → Prop} {S : K.LS} {p vP : Value} {z zs : Int} {l : List PP}

theorem KeepAt.cells (h : KeepAt K w gk gl gd F FL S p (.slice (some ⟨gr, 0, none⟩) n cap) z zs l) {k : Nat} {x : PP} (hx : l[k]? = some x) :
    w.cell? ⟨gr, k * 2, none⟩ = some (.string x.1) ∧ w.cell? ⟨gr, k * 2 + 1, none⟩ = some (.string x.2) := by
  have h0 := h.row.cells (g := gr) rfl _ _ (cellsP_at hx (j := 0) rfl)
  have h1 := h.row.cells (g := gr) rfl _ _ (cellsP_at hx (j := 1) rfl)
  rw [Addr.add_lit, Nat.zero_add] at h0 h1
  exact ⟨h0, h1⟩

theorem keys_up {k : Nat} {x : PP} (h : l[k]? = some x) : strs (keysP (l.take (k + 1))) = strs (keysP (l.take k)) ++ [.string x.1] := by
  rw [List.take_add_one, h]
  simp [keysP, strs]

set_option maxRecDepth 100000 in
set_option maxHeartbeats 2000000 in
theorem keys_is (hK : LogC K) (h : KeepAt K w gk gl gd F FL S p vP z zs l) (hn : l.length ≤ 4096) :
    Calls Try.prog 20 #[.pointer (some ⟨gk, 0, none⟩)] w (Made w.heap.size 9 w (strs (keysP l))) := by
  obtain ⟨A, c, rfl, _, _, _⟩ := h.slice
  have c2 := h.c2
  have HB : Hid (∀ w', Below w.heap.size w w' → KeepAt K w' gk gl gd F FL S p (.slice A l.length c) z zs l) := fun w' hb => h.below hK hb
  obtain ⟨n, hnn⟩ : ∃ n, l.length = n := ⟨_, rfl⟩
  rw [hnn] at c2 HB hn
  have HN := Lib.hid hnn
  clear h hnn
  go_enter Try.func20, Try.ntmps20
  go_wp2_with (at_make; refine wpList_make_room _ rfl _ _ 50 rfl w.heap.size 9 (.string ByteArray.empty) 16 Try.underlying50 info_str (by decide) n rfl (by simp [go_sem]) (by omega) (Nat.le_refl _) ?_)
  intro v1 w1 ho1 hb1
  have k2 := (HB.out _ hb1).c2
  clear c2
  go_wp2_with fail
  go_loopw [3, 17] (fun v i wr => ∃ k : Nat, i = .int .i64 k ∧ k ≤ n ∧ wr.ownsRow w.heap.size 9 1 v k (strs (keysP (l.take k))) ∧ Below w.heap.size w wr) (fun _ i _ => n - (intOf i).toNat)
  case atStart => exact ⟨0, rfl, by omega, by rw [List.take_zero]; exact ho1, hb1⟩
  case round =>
    obtain ⟨k, rfl, hk, hown, hb⟩ := hrel
    have i0 : (0 : Int) ≤ (k : Int) := by omega
    by_cases hlt : k < n
    · have i1 : (k : Int) < (n : Int) := by omega
      have h2 := HB.out _ hb
      obtain ⟨gr, cap, hv, _, _, _, _⟩ := h2.rowAt (by rw [HN.out]; omega)
      simp only [Value.slice.injEq] at hv
      obtain ⟨rfl, hq, rfl⟩ := hv
      clear hq
      obtain ⟨x, hx⟩ : ∃ x, l[k]? = some x := ⟨_, List.getElem?_eq_getElem (by rw [HN.out]; exact hlt)⟩
      obtain ⟨d0, d1⟩ := h2.cells hx
      have HU := Lib.hid (keys_up hx)
      have hz := hb.size
      have hcn : ((wr.alloc (.cells #[.string x.1, .string x.2] 65)).alloc (.cells #[.string x.1] 9)).cell? ⟨wr.heap.size + 1, 0, none⟩ = some (.string x.1) := by
        simp
      have HCN := Lib.hid hcn
      have HOW := Lib.hid ((hown.alloc (.cells #[.string x.1, .string x.2] 65)).alloc (.cells #[.string x.1] 9))
      clear h2 hx hcn hown
      go_wp2_with (first
        | (at_builtin; refine wpList_app_one _ rfl _ _ 50 rfl w.heap.size 9 (.string ByteArray.empty) 16 Try.underlying50 info_str rfl (by decide) _ k _ rfl HOW.out (wr.heap.size + 1) (.string x.1) rfl HCN.out rfl (by omega) (by simp; omega) ?_))
      intro v3 w3 ho3 hb3
      have hb4 := ((hb.alloc hz (.cells #[.string x.1, .string x.2] 65)).alloc (by simp; omega) _).trans hb3
      have ho4 := own_conv ho3 HU.out.symm rfl
      go_wp2_with fail
      go_roundw
      case rel => exact ⟨k + 1, by go_num, by omega, ho4, hb4⟩
      case measure => simp [intOf]; omega
    · have i1 : ¬ ((k : Int) < (n : Int)) := by omega
      rw [List.take_of_length_le (by rw [HN.out]; omega)] at hown
      have HO := Lib.hid (own_cast hown (show k = (strs (keysP l)).length by rw [strs_length, keysP_len, HN.out]; omega))
      clear hown
      go_wp2_with fail
      go_ret
      exact ⟨_, rfl, HO.out, hb⟩
end

end Go.Proofs.Ytaccmjgnggepjaa
/-
  The landed package keep: check.
-/
namespace Go.Proofs.Ytaccmjgnggepjaa
open Go.RowKit

theorem quietK_same {P : Program} {f : FuncId} {args : Array Value} {w : World} {n : Nat} {v : Value} (h : Calls P f args (w.drewN n) fun e w' => e = .returned v ∧ w.drewN n = w') :
    Calls P f args (w.drewN n) fun e w'' => e = .returned v ∧ ∃ n', w'' = w.drewN n' :=
  h.mono fun _ _ ⟨he, hw⟩ => ⟨he, n, hw.symm⟩

section
variable {K : LogK} {gk gl gd : Nat} {F FL : Nat → Prop} {S : K.LS} {p vP : Value} {z : Int} {l : List PP}

set_option maxRecDepth 100000 in
set_option maxHeartbeats 4000000 in
theorem check_is (hK : LogC K) (k v : ByteArray) (w : World) (h : KeepAt K w gk gl gd F FL S p vP z (sizeP l : Nat) l) (hg : GoodP l) (hv : v.size ≤ 140737488351232) :
    Calls Try.prog 32 #[.pointer (some ⟨gk, 0, none⟩), .string k, .string v] w fun e w' => e = .returned (.int .i64 (checkP l k v)) ∧ Below w.heap.size w w' := by
  have c3 := h.c3
  have HIK := Lib.hid (isKey_is k w)
  obtain ⟨R, hR⟩ : ∃ R, checkP l k v = R := ⟨_, rfl⟩
  rw [hR]
  have HR := Lib.hid hR
  obtain ⟨nk, hnk⟩ : ∃ nk, k.size = nk := ⟨_, rfl⟩
  obtain ⟨nv, hnv⟩ : ∃ nv, v.size = nv := ⟨_, rfl⟩
  have e9 : (k.size : Int) = (nk : Int) := by rw [hnk]
  have e8 : (v.size : Int) = (nv : Int) := by rw [hnv]
  rw [hnv] at hv
  have HNK := Lib.hid hnk
  have HNV := Lib.hid hnv
  obtain ⟨ok, hok⟩ : ∃ ok, okK k = ok := ⟨_, rfl⟩
  rw [hok] at HIK
  have HOK := Lib.hid hok
  have hbad : ¬ (1 ≤ nk ∧ nk ≤ 32 ∧ nk + nv ≤ 4032) → R = 1 := fun hb => by
    rw [← hR, checkP, if_pos]
    rw [hnk, hnv]
    exact hb
  have HBAD := Lib.hid hbad
  clear hR hnk hnv hok hbad
  cases ok with
  | false =>
    have HR1 : Hid (R = 1) := HBAD.out fun hb => by
      have := HOK.out
      rw [okK, HNK.out, decide_eq_true hb.1, decide_eq_true hb.2.1] at this
      cases this
    clear h hg c3
    go_enter Try.func32, Try.ntmps32
    go_wp2_with (go_at_call 37; refine HIK.out.mono ?_; rintro e w' ⟨rfl, rfl⟩)
    go_ret
    exact ⟨by rw [HR1.out]; rfl, Below.refl _ _⟩
  | true =>
    have h12 : 1 ≤ nk ∧ nk ≤ 32 := by
      have := HOK.out
      rw [okK, HNK.out, Bool.and_eq_true, decide_eq_true_eq, decide_eq_true_eq] at this
      exact this
    have e1 : IntKind.i64.wrap ((nk : Int) + (nv : Int)) = (nk : Int) + (nv : Int) := IntWalk.i64_in _ (by omega)
    by_cases hbig : nk + nv ≤ 4032
    · have i1 : ¬ ((4032 : Int) < (nk : Int) + (nv : Int)) := by omega
      obtain ⟨T, hT⟩ : ∃ T, sizeP (setP l k v) = T := ⟨_, rfl⟩
      have hr : R = if 262144 < T then 8 else 0 := by
        rw [← HR.out, checkP, if_neg, hT]
        rw [HNK.out, HNV.out]
        exact fun hn => hn ⟨h12.1, h12.2, hbig⟩
      have HRT := Lib.hid hr
      obtain ⟨sz, hsz⟩ : ∃ sz, sizeP l = sz := ⟨_, rfl⟩
      have hszm : sz ≤ 262144 := by rw [← hsz]; exact hg.2.1
      rw [hsz] at c3
      obtain ⟨C1, hC1⟩ : ∃ C1, nk + nv + 64 = C1 := ⟨_, rfl⟩
      obtain ⟨A1, hA1⟩ : ∃ A1, sz + C1 = A1 := ⟨_, rfl⟩
      have hcnt : ∀ N, Calls Try.prog 55 #[.string k, .string v] (w.drewN N) fun e w' => e = .returned (.int .i64 (C1 : Int)) ∧ w.drewN N = w' := fun N => by
        have := kcount_is k v (w.drewN N) (by rw [HNK.out]; omega) (by rw [HNV.out]; omega)
        rw [HNK.out, HNV.out, hC1] at this
        exact this
      have HCNT := Lib.hid hcnt
      have e2 : IntKind.i64.wrap ((sz : Int) + (C1 : Int)) = (A1 : Int) := by rw [IntKind.wrap_i64]; omega
      have HC1 := Lib.hid hC1
      have HA1 := Lib.hid hA1
      clear hC1 hA1
      have HB : Hid (∀ w', Below w.heap.size w w' → KeepAt K w' gk gl gd F FL S p vP z (sizeP l : Nat) l) := fun w' hb => h.below hK hb
      have HG := Lib.hid hg
      have HSZ := Lib.hid hsz
      have HTT := Lib.hid hT
      obtain ⟨n, hnn⟩ : ∃ n, l.length = n := ⟨_, rfl⟩
      have hnf : n < 4096 := by rw [← hnn]; exact hg.few
      have HN := Lib.hid hnn
      have HFD : Hid (∀ w', Below w.heap.size w w' → Calls Try.prog 29 #[.pointer (some ⟨gk, 0, none⟩), .string k] w' fun e w2 => e = .returned (.tuple #[.int .i64 (posP l k : Nat), .bool (hasP l k)]) ∧ Below w'.heap.size w' w2) := fun w' hb => kfind_is k w' (HB.out w' hb) HG.out.1 (by rw [HN.out]; omega)
      clear h hg hr hsz hT hcnt hnn HBAD HR
      go_enter Try.func32, Try.ntmps32
      go_wp2_with (go_at_call 37; refine HIK.out.mono ?_; rintro e w' ⟨rfl, rfl⟩)
      go_quiet ((go_at_call 55; exact quietK_same (HCNT.out _)))
      obtain ⟨w2, hw2⟩ : ∃ w2, w2 = w.drewN nq := ⟨_, rfl⟩
      have hb2 : Below w.heap.size w w2 := by rw [hw2]; exact below_n (Below.refl _ _) nq
      rw [← hw2]
      clear hw2 c3
      have HF2 := Lib.hid (HFD.out w2 hb2)
      cases hh : hasP l k with
      | false =>
        rw [hh] at HF2
        have hT2 : T = A1 := by have := (setP_no (v := v) hh).2; rw [HTT.out, HSZ.out, HNK.out, HNV.out, HC1.out, HA1.out] at this; exact this
        have HT2 := Lib.hid hT2
        clear hT2 hh HFD HCNT
        go_wp2_with fail
        refine HF2.out.mono ?_
        rintro e w3 ⟨rfl, hb3⟩
        have hb13 := hb2.trans (hb3.mono hb2.size)
        have h3 := HB.out w3 hb13
        obtain ⟨A, c, rfl, _, _, _⟩ := h3.slice
        have c2 := h3.c2
        rw [HN.out] at c2
        have i2 : ¬ ((n : Int) = 4096) := by omega
        have i3 : ((n : Int) == 4096) = false := by simp; omega
        clear h3
        by_cases hful : 262144 < A1
        · have j1 : (262144 : Int) < (A1 : Int) := by omega
          have HR8 : Hid (R = 8) := by show R = 8; rw [HRT.out, if_pos (by rw [HT2.out]; exact hful)]
          go_wp2_with fail
          go_ret
          exact ⟨by rw [HR8.out]; rfl, hb13⟩
        · have j1 : ¬ ((262144 : Int) < (A1 : Int)) := by omega
          have HR8 : Hid (R = 0) := by show R = 0; rw [HRT.out, if_neg (by rw [HT2.out]; exact hful)]
          go_wp2_with fail
          go_ret
          exact ⟨by rw [HR8.out]; rfl, hb13⟩
      | true =>
        rw [hh] at HF2
        obtain ⟨u, hu⟩ := hasP_at hh
        obtain ⟨q, hq⟩ : ∃ q, posP l k = q := ⟨_, rfl⟩
        obtain ⟨nu, hnu⟩ : ∃ nu, u.size = nu := ⟨_, rfl⟩
        have hT2 : T + (nk + nu + 64) = A1 := by have := (setP_yes (v := v) hh hu).2; rw [HTT.out, HSZ.out, HNK.out, HNV.out, hnu, HC1.out, HA1.out] at this; exact this
        have hlt := hasP_lt hh
        rw [hq] at hu HF2 hlt
        rw [HN.out] at hlt
        have hou := HG.out.2.2 _ (List.mem_of_getElem? hu)
        have hnu2 : nu ≤ 4032 := by have := hou.2.2; simp only at this; omega
        have HT2 := Lib.hid hT2
        have HU := Lib.hid hu
        have HNU := Lib.hid hnu
        clear hT2 hh HFD HCNT hu hq hnu hou
        go_wp2_with fail
        refine HF2.out.mono ?_
        rintro e w3 ⟨rfl, hb3⟩
        have hb13 := hb2.trans (hb3.mono hb2.size)
        have h3 := HB.out w3 hb13
        obtain ⟨gr, cap, rfl, _, _, _, _⟩ := h3.rowAt (by rw [HN.out]; omega)
        have c2 := h3.c2
        rw [HN.out] at c2
        obtain ⟨d0, d1⟩ := h3.cells HU.out
        have i0 : (0 : Int) ≤ (q : Int) := by omega
        have i1 : (q : Int) < (n : Int) := by omega
        have HC2 := kcount_is k u w3 (by rw [HNK.out]; omega) (by rw [HNU.out]; omega)
        rw [HNK.out, HNU.out] at HC2
        have HCC := Lib.hid HC2
        obtain ⟨A2, hA2⟩ : ∃ A2, nk + nu + 64 = A2 := ⟨_, rfl⟩
        rw [hA2] at HCC
        have hT3 : T + A2 = A1 := by rw [← hA2]; exact HT2.out
        have hA1m : A1 ≤ 1000000 := by have h1 := HA1.out; have h2 := HC1.out; omega
        have e3 : IntKind.i64.wrap ((A1 : Int) - (A2 : Int)) = (T : Int) := by rw [IntKind.wrap_i64]; omega
        clear h3 HC2 hT3 hA2 hA1m
        by_cases hful : 262144 < T
        · have j1 : (262144 : Int) < (T : Int) := by omega
          have HR8 : Hid (R = 8) := by show R = 8; rw [HRT.out, if_pos hful]
          go_wp2_with (go_at_call 55; refine HCC.out.mono ?_; rintro e w' ⟨rfl, rfl⟩)
          go_ret
          exact ⟨by rw [HR8.out]; rfl, hb13⟩
        · have j1 : ¬ ((262144 : Int) < (T : Int)) := by omega
          have HR8 : Hid (R = 0) := by show R = 0; rw [HRT.out, if_neg hful]
          go_wp2_with (go_at_call 55; refine HCC.out.mono ?_; rintro e w' ⟨rfl, rfl⟩)
          go_ret
          exact ⟨by rw [HR8.out]; rfl, hb13⟩
    · have i1 : (4032 : Int) < (nk : Int) + (nv : Int) := by omega
      have HR1 : Hid (R = 1) := HBAD.out fun hb => hbig hb.2.2
      clear h hg c3
      go_enter Try.func32, Try.ntmps32
      go_wp2_with (go_at_call 37; refine HIK.out.mono ?_; rintro e w' ⟨rfl, rfl⟩)
      go_ret
      exact ⟨by rw [HR1.out]; rfl, Below.refl _ _⟩
end

end Go.Proofs.Ytaccmjgnggepjaa
