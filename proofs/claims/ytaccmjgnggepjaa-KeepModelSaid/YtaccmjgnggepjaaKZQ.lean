/-
  The landed package log: scan.
-/
import Derived.Test.YtaccmjgnggepjaaKZP
import Derived.Test.YtaccmjgnggepjaaKZN
import Derived.ScopeJumps
import Derived.Laws.BitsAllLaws
import Derived.Test.YtaccmjgnggepjaaKZO
import Derived.Test.YtaccmjgnggepjaaKZM
namespace Go.Proofs.Ytaccmjgnggepjaa
open Go.RowKit

theorem scan_stop {f : Nat} {b : List Int} {sz : Nat} (h : b.length < 3 ∨ b.length < lenB b + 3 ∨ b.getD (lenB b + 2) 0 ≠ 1 ∨ 4096 < lenB b ∨ 524288 < sz + lenB b + 16) : scanF f b sz = ([], 0) := by
  cases f with
  | zero => rfl
  | succ f =>
    rw [scanF]
    (repeat' split) <;> first | rfl | (exfalso; rcases h with h | h | h | h | h <;> contradiction)
theorem scan_step {f : Nat} {b : List Int} {sz n : Nat} (h3 : ¬ b.length < 3) (hn : lenB b = n) (hl : ¬ b.length < n + 3) (h1 : b.getD (n + 2) 0 = 1) (h4 : ¬ 4096 < n) (h5 : ¬ 524288 < sz + n + 16) :
    scanF (f + 1) b sz = (strOfNums ((b.drop 2).take n) :: (scanF f (b.drop (n + 3)) (sz + n + 16)).1, n + 3 + (scanF f (b.drop (n + 3)) (sz + n + 16)).2) := by
  subst hn
  rw [scanF, if_neg h3, if_neg hl, if_neg (by rw [h1]; decide), if_neg h4, if_neg h5]

theorem idx_lt {a m n : Nat} (h5 : ¬ n - a < m + 3) : a + (m + 2) < n := by omega
theorem idx_eq (off a m : Nat) : off + (a + (m + 2)) = off + a + (2 + m) := by omega
theorem idx_i6 {a m n : Nat} (h5 : ¬ n - a < m + 3) : 2 + (m : Int) < ((n - a : Nat) : Int) := by omega
theorem cast_16 (T m : Nat) : (T : Int) + (m : Int) + 16 = ((T + m + 16 : Nat) : Int) := by omega
theorem scan_arith {a n m f : Nat} (h5 : ¬ n - a < m + 3) (ha : a ≤ n) (hf : n - a < f + 1) : a + (3 + m) ≤ n ∧ n - (a + (3 + m)) < f ∧ n - (a + (3 + m)) < n - a := by omega
theorem scan_T {T m k8 a : Nat} (h : ¬ 524288 < T + m + 16) (hk : k8 * 16 ≤ T) (hka : k8 ≤ a) : T + m + 16 ≤ 524288 ∧ (k8 + 1) * 16 ≤ T + m + 16 ∧ k8 + 1 ≤ a + (3 + m) := by omega
theorem cap_2 {a n c : Nat} (h3 : ¬ n - a < 3) (hc : n ≤ c) : ¬ c - a = 2 := by omega
/-- string(b) of some bytes, none too -/
theorem conv_anyG (w : World) {A : Option Addr} {n : Nat} {zs : List Int} (hz : zs.length = n) (hr : Rd w A (u8s zs)) (c : Nat) :
    (convert 48 9 (.slice A n c)).run Try.prog w = .ok (.string (strOfNums zs)) w := by
  subst hz
  rcases Nat.eq_zero_or_pos zs.length with h0 | h0
  · have hn : zs = [] := List.eq_nil_of_length_eq_zero h0
    subst hn
    cases A with
    | none => exact run_convert_bytes_nil (P := Try.prog) w 48 5 Try.underlying48 Try.underlying5 0 c 9 Try.underlying9
    | some a =>
      have hl : (loadCells a 0).run Try.prog w = .ok (([] : List Int).map (Value.int .u8)).toArray w := run_loadCells_list (P := Try.prog) w a [] (fun j v hj => by simp at hj)
      show (convert 48 9 (.slice (some a) 0 c)).run Try.prog w = _
      rw [run_convert_bytes_string w 48 9 5 (some a) 0 c Try.underlying48 Try.underlying5 Try.underlying9, run_bytesToString w a 0 c [] hl]
      rfl
  · obtain ⟨b, off, rfl, _, hc⟩ := hr.open_ (by rw [u8s_length]; exact h0)
    refine run_convert_bytes_arg w 48 5 Try.underlying48 Try.underlying5 b off zs.length c zs rfl (fun i hi => ?_) 9 Try.underlying9
    rw [hc i _ (u8s_at hi)]
    rw [List.getD_eq_getElem?_getD]
/-- the text of a record lies in the file -/
theorem rd_mid {w : World} {b off n a m : Nat} {zs : List Int} (hb : b < w.heap.size) (hz : zs.length = n) (h : ∀ i, i < n → w.cell? ⟨b, off + i, none⟩ = some (.int .u8 (zs[i]?.getD 0))) (h5 : ¬ n - a < m + 3) :
    (((zs.drop a).drop 2).take m).length = m ∧ Rd w (some ⟨b, off + a + 2, none⟩) (u8s (((zs.drop a).drop 2).take m)) := by
  have hl : (((zs.drop a).drop 2).take m).length = m := by rw [List.length_take, List.length_drop, List.length_drop, hz]; omega
  refine ⟨hl, fun _ => ⟨b, off + a + 2, rfl, hb, fun i v hv => ?_⟩⟩
  have hi : i < m := by
    rcases Nat.lt_or_ge i m with h' | h'
    · exact h'
    · rw [List.getElem?_eq_none (by rw [u8s_length, hl]; exact h')] at hv; cases hv
  rw [u8s_at (by rw [hl]; exact hi)] at hv
  cases hv
  rw [show off + a + 2 + i = off + (a + 2 + i) by omega, h (a + 2 + i) (by omega)]
  rw [List.getElem?_take, if_pos hi, List.getElem?_drop, List.getElem?_drop, Nat.add_assoc]
theorem or_two (x y : Nat) (hx : x < 256) (hy : y < 256) : bits .or .i64 ((x : Int) * 256) (y : Int) = ((x * 256 + y : Nat) : Int) := by
  have h1 := bits_nat .i64 63 (by decide) (fun n h0 h1 => by rw [IntKind.wrap_i64]; omega) (x * 256) y (by omega) (by omega) |>.2
  rw [nat_join 8 (x * 256) y (by omega) (by omega)] at h1
  rw [← h1]
  rfl

inductive EndS (R : Value → World → Prop) : Act → World → Prop
  | mk (u0 u1 u2 u3 u4 u5 u6 u7 u8 u9 u10 u11 u12 u13 u14 u15 u16 u17 u18 u19 u20 u21 u22 u23 u24 u25 u26 u27 u28 u29 u30 u31 u32 u33 u34 u35 u36 u37 u38 u39 u40 u41 u42 u43 u44 u45 u46 u47 u48 u49 u50 u51 u52 u53 u54 u55 u56 u57 u58 u59 u60 u61 u62 u63 u64 u65 u66 u67 u68 u69 u70 u71 u72 u73 u74 u75 : Value) (w' : World) (h : R u5 w') : EndS R { tmps := #[u0, u1, u2, u3, u4, u5, u6, u7, u8, u9, u10, u11, u12, u13, u14, u15, u16, u17, u18, u19, u20, u21, u22, u23, u24, u25, u26, u27, u28, u29, u30, u31, u32, u33, u34, u35, u36, u37, u38, u39, u40, u41, u42, u43, u44, u45, u46, u47, u48, u49, u50, u51, u52, u53, u54, u55, u56, u57, u58, u59, u60, u61, u62, u63, u64, u65, u66, u67, u68, u69, u70, u71, u72, u73, u74, u75], defers := [] } w'
theorem endS_elim {R : Value → World → Prop} {G : Act → World → Prop} (h : ∀ (u0 u1 u2 u3 u4 u5 u6 u7 u8 u9 u10 u11 u12 u13 u14 u15 u16 u17 u18 u19 u20 u21 u22 u23 u24 u25 u26 u27 u28 u29 u30 u31 u32 u33 u34 u35 u36 u37 u38 u39 u40 u41 u42 u43 u44 u45 u46 u47 u48 u49 u50 u51 u52 u53 u54 u55 u56 u57 u58 u59 u60 u61 u62 u63 u64 u65 u66 u67 u68 u69 u70 u71 u72 u73 u74 u75 : Value) (w' : World), R u5 w' → G { tmps := #[u0, u1, u2, u3, u4, u5, u6, u7, u8, u9, u10, u11, u12, u13, u14, u15, u16, u17, u18, u19, u20, u21, u22, u23, u24, u25, u26, u27, u28, u29, u30, u31, u32, u33, u34, u35, u36, u37, u38, u39, u40, u41, u42, u43, u44, u45, u46, u47, u48, u49, u50, u51, u52, u53, u54, u55, u56, u57, u58, u59, u60, u61, u62, u63, u64, u65, u66, u67, u68, u69, u70, u71, u72, u73, u74, u75], defers := [] } w') : ∀ a' w', EndS R a' w' → G a' w' := by
  intro a' w' hk
  cases hk with
  | mk u0 u1 u2 u3 u4 u5 u6 u7 u8 u9 u10 u11 u12 u13 u14 u15 u16 u17 u18 u19 u20 u21 u22 u23 u24 u25 u26 u27 u28 u29 u30 u31 u32 u33 u34 u35 u36 u37 u38 u39 u40 u41 u42 u43 u44 u45 u46 u47 u48 u49 u50 u51 u52 u53 u54 u55 u56 u57 u58 u59 u60 u61 u62 u63 u64 u65 u66 u67 u68 u69 u70 u71 u72 u73 u74 u75 w' hr => exact h u0 u1 u2 u3 u4 u5 u6 u7 u8 u9 u10 u11 u12 u13 u14 u15 u16 u17 u18 u19 u20 u21 u22 u23 u24 u25 u26 u27 u28 u29 u30 u31 u32 u33 u34 u35 u36 u37 u38 u39 u40 u41 u42 u43 u44 u45 u46 u47 u48 u49 u50 u51 u52 u53 u54 u55 u56 u57 u58 u59 u60 u61 u62 u63 u64 u65 u66 u67 u68 u69 u70 u71 u72 u73 u74 u75 w' hr

/-- what scan leaves of the log -/
def ScanTo (w : World) (gl gd : Nat) (F Fd : Nat → Prop) (D : PD) (p : Value) (R : List ByteArray × Nat) (w' : World) : Prop :=
  ∃ (A : Option Addr) (c : Nat) (F' : Nat → Prop), LogAt w' gl gd F' Fd D p (.slice A R.1.length c) (sizeL R.1 : Nat) R.1 ∧ Touch F w w' ∧ ∀ k, F' k → F k ∨ w.heap.size ≤ k
def EndR (w : World) (gl gd : Nat) (F Fd : Nat → Prop) (D : PD) (p : Value) (R : List ByteArray × Nat) (u : Value) (w' : World) : Prop := u = .int .i64 (R.2 : Nat) ∧ ScanTo w gl gd F Fd D p R w'

set_option maxRecDepth 100000 in
set_option maxHeartbeats 8000000 in
theorem scan_is {gl gd : Nat} {F Fd : Nat → Prop} {D : PD} {p vL : Value} (A : Option Addr) (n c : Nat) (zs : List Int) (w : World) (h : LogAt w gl gd F Fd D p vL 0 []) (hz : zs.length = n) (hr : Rd w A (u8s zs)) (hy : Byts zs) (hc : n ≤ c) (hm : c ≤ maxLen) (hn : n ≤ 2000000) (hf : ∀ a, A = some a → 0 < n → ¬ F a.block) :
    Calls Try.prog 44 #[.pointer (some ⟨gl, 0, none⟩), .slice A n c] w fun e w' => e = .returned (.int .i64 ((scanB zs).2 : Nat)) ∧ ScanTo w gl gd F Fd D p (scanB zs) w' := by
  have HZ := Lib.hid hz
  have HY := Lib.hid hy
  have HRD : Hid (∀ wX, Touch F w wX → Rd wX A (u8s zs)) := fun wX hX => by
    rcases Nat.eq_zero_or_pos n with h0 | h0
    · have : zs = [] := List.eq_nil_of_length_eq_zero (by omega)
      subst this
      exact Rd.nil _ _
    · exact hr.kept hX.size fun a ha hl => hX.block _ hl (hf a ha h0)
  obtain ⟨A0, c0, rfl, _, _, _⟩ := h.slice
  have HH := Lib.hid h
  clear hz hr hy h hf
  unfold maxLen at hm
  go_enter Try.func44, Try.ntmps44
  go_wp2_with fail
  refine wp_scope_jumps 0 (EndS (EndR w gl gd F Fd D p (scanB zs))) (fun _ _ => 0) rfl ?_ ?_
  · go_wp2_with fail
    go_loopw [5] (fun u wr => ∃ (a f T k8 c8 : Nat) (A8 : Option Addr) (F8 : Nat → Prop) (l : List ByteArray), u = .int .i64 a ∧ a ≤ n ∧ n - a < f ∧ T ≤ 524288 ∧ k8 ≤ a ∧ Hid (sizeL l = T) ∧ Hid (l.length = k8) ∧ k8 * 16 ≤ T ∧ Hid (scanB zs = (l ++ (scanF f (zs.drop a) T).1, a + (scanF f (zs.drop a) T).2)) ∧ Hid (LogAt wr gl gd F8 Fd D p (.slice A8 k8 c8) T l) ∧ Hid (Touch F w wr) ∧ Hid (∀ k, F8 k → F k ∨ w.heap.size ≤ k)) (fun u _ => n - (intOf u).toNat)
    case atStart => exact ⟨0, n + 1, 0, 0, c0, A0, F, [], rfl, by omega, by omega, by omega, by omega, rfl, rfl, by omega, by show _ = _; rw [List.drop_zero, List.nil_append, Nat.zero_add, scanB, HZ.out], HH.out, Touch.refl _ _, fun k hk => .inl hk⟩
    case round =>
      obtain ⟨a, f, T, k8, c8, A8, F8, l, rfl, ha, hfl, hT5, hk8, HT, HL, hk9, HSC, H8, HT8, HF8⟩ := hrel
      have i0 : (0 : Int) ≤ (a : Int) := by omega
      obtain ⟨f, rfl⟩ : ∃ f', f = f' + 1 := ⟨f - 1, by omega⟩
      have HST : Hid (∀ (wX : World) (A8 : Option Addr) (c8 : Nat) (F8 : Nat → Prop), LogAt wX gl gd F8 Fd D p (.slice A8 k8 c8) T l → Touch F w wX → (∀ k, F8 k → F k ∨ w.heap.size ≤ k) → scanF (f + 1) (zs.drop a) T = ([], 0) → EndR w gl gd F Fd D p (scanB zs) (.int .i64 (a : Int)) wX) := fun wX A8 c8 F8 hX hTX hFX hs => by
        have h1 := HSC.out
        rw [hs, List.append_nil, Nat.add_zero] at h1
        rw [h1]
        refine ⟨rfl, A8, c8, F8, ?_, hTX, hFX⟩
        show LogAt wX gl gd F8 Fd D p (.slice A8 l.length c8) ((sizeL l : Nat) : Int) l
        rw [HL.out, HT.out]
        exact hX
      have hdl : (zs.drop a).length = n - a := by rw [List.length_drop, HZ.out]
      by_cases h3 : n - a < 3
      · have HSTOP := Lib.hid (HST.out wr A8 c8 F8 H8.out HT8.out HF8.out (scan_stop (.inl (by omega))))
        clear hdl HST
        have i3 : (((n - a : Nat)) : Int) < 3 := by omega
        go_wp2_with fail
        all_goals
          go_step3
          show 0 = 0 ∧ EndS (EndR w gl gd F Fd D p (scanB zs)) _ _
          exact ⟨rfl, .mk _ _ _ _ _ _ _ _ _ _ _ _ _ _ _ _ _ _ _ _ _ _ _ _ _ _ _ _ _ _ _ _ _ _ _ _ _ _ _ _ _ _ _ _ _ _ _ _ _ _ _ _ _ _ _ _ _ _ _ _ _ _ _ _ _ _ _ _ _ _ _ _ _ _ _ _ _ HSTOP.out⟩
      · have i3 : ¬ ((((n - a : Nat)) : Int) < 3) := by omega
        have hca : ¬ (c = a) := by omega
        obtain ⟨b, off, hA, _, hcl⟩ := (HRD.out wr HT8.out).open_ (by rw [u8s_length, HZ.out]; omega)
        subst hA
        have HBL : Hid (∀ wX, Touch F w wX → b < wX.heap.size) := fun wX hX => by
          obtain ⟨b', off', e, hb', _⟩ := (HRD.out wX hX).open_ (by rw [u8s_length, HZ.out]; omega)
          cases e
          exact hb'
        obtain ⟨x, hx⟩ : ∃ x : Nat, zs[a]?.getD 0 = (x : Int) := ⟨(zs[a]?.getD 0).toNat, by have := (HY.out.at_ a).1; omega⟩
        obtain ⟨y, hy⟩ : ∃ y : Nat, zs[a + 1]?.getD 0 = (y : Int) := ⟨(zs[a + 1]?.getD 0).toNat, by have := (HY.out.at_ (a + 1)).1; omega⟩
        have hx256 : x < 256 := by have := (HY.out.at_ a).2; omega
        have hy256 : y < 256 := by have := (HY.out.at_ (a + 1)).2; omega
        have e0 : wr.cell? ⟨b, off + a, none⟩ = some (.int .u8 (x : Int)) := by rw [hcl a _ (u8s_at (by rw [HZ.out]; omega)), hx]
        have e1 : wr.cell? ⟨b, off + a + 1, none⟩ = some (.int .u8 (y : Int)) := by rw [Nat.add_assoc, hcl (a + 1) _ (u8s_at (by rw [HZ.out]; omega)), hy]
        obtain ⟨m, hm⟩ : ∃ m, x * 256 + y = m := ⟨_, rfl⟩
        have hlen : lenB (zs.drop a) = m := by
          rw [lenB, List.getD_eq_getElem?_getD, List.getD_eq_getElem?_getD, List.getElem?_drop, List.getElem?_drop, Nat.add_zero, hx, hy]
          omega
        have hor := or_two x y hx256 hy256
        rw [hm] at hor
        have HOR := Lib.hid hor
        have HLEN := Lib.hid hlen
        have HDL := Lib.hid hdl
        have HCL : Hid (∀ i, i < n → wr.cell? ⟨b, off + i, none⟩ = some (.int .u8 (zs[i]?.getD 0))) := fun i hi => hcl i _ (u8s_at (by rw [HZ.out]; exact hi))
        have hm65 : m < 65536 := by omega
        clear hx hy hm hlen hor hdl hcl
        go_wp2_with fail
        go_quiet (fail)
        rw [HOR.out]
        obtain ⟨w4, hw4⟩ : ∃ w4, w4 = wr.drewN nq := ⟨_, rfl⟩
        have H4 : Hid (LogAt w4 gl gd F8 Fd D p (.slice A8 k8 c8) T l) := by show LogAt _ _ _ _ _ _ _ _ _ _; rw [hw4]; exact H8.out.same rfl
        have HT4 : Hid (Touch F w w4) := by show Touch _ _ _; rw [hw4]; exact HT8.out.drewN _
        have HCL4 : Hid (∀ i, i < n → w4.cell? ⟨b, off + i, none⟩ = some (.int .u8 (zs[i]?.getD 0))) := fun i hi => by rw [hw4]; exact HCL.out i hi
        rw [← hw4]
        clear hw4 e0 e1 H8 HT8 HCL HOR hca i3
        by_cases h5 : n - a < m + 3
        · have HSTOP := Lib.hid (HST.out w4 A8 c8 F8 H4.out HT4.out HF8.out (scan_stop (.inr (.inl (by rw [HDL.out, HLEN.out]; exact h5)))))
          have j5 : (((n - a : Nat)) : Int) - 3 < (m : Int) := by omega
          clear HST
          go_wp2_with fail
          go_step3
          show 0 = 0 ∧ EndS (EndR w gl gd F Fd D p (scanB zs)) _ _
          exact ⟨rfl, .mk _ _ _ _ _ _ _ _ _ _ _ _ _ _ _ _ _ _ _ _ _ _ _ _ _ _ _ _ _ _ _ _ _ _ _ _ _ _ _ _ _ _ _ _ _ _ _ _ _ _ _ _ _ _ _ _ _ _ _ _ _ _ _ _ _ _ _ _ _ _ _ _ _ _ _ _ _ HSTOP.out⟩
        · have j5 : ¬ ((((n - a : Nat)) : Int) - 3 < (m : Int)) := by omega
          obtain ⟨z, hzz⟩ : ∃ z, zs[a + (m + 2)]?.getD 0 = z := ⟨_, rfl⟩
          have hlt : a + (m + 2) < n := idx_lt h5
          have ei : off + (a + (m + 2)) = off + a + (2 + m) := idx_eq off a m
          have ez := HCL4.out (a + (m + 2)) hlt
          rw [hzz, ei] at ez
          clear ei hlt
          have hgd : (zs.drop a).getD (m + 2) 0 = z := by rw [List.getD_eq_getElem?_getD, List.getElem?_drop, hzz]
          have i6 : 2 + (m : Int) < ((n - a : Nat) : Int) := idx_i6 h5
          have HGD := Lib.hid hgd
          clear hgd hzz
          by_cases hz1 : z = 1
          · subst hz1
            obtain ⟨hml, hmr⟩ := rd_mid (a := a) (m := m) (HBL.out w4 HT4.out) HZ.out HCL4.out h5
            obtain ⟨S, hS⟩ : ∃ S, strOfNums (((zs.drop a).drop 2).take m) = S := ⟨_, rfl⟩
            have hcv := conv_anyG w4 hml hmr (c - a - 2)
            have hsz : S.size = m := by rw [← hS, strOf_size, hml]
            rw [hS] at hcv
            have HS := Lib.hid hS
            have HSZ := Lib.hid hsz
            have hcb : ¬ c - a = 2 := cap_2 h3 hc
            have q2 := H4.out.c2
            obtain ⟨w5, hw5⟩ : ∃ w5, w5 = w4.alloc (.cells #[.string S] 9) := ⟨_, rfl⟩
            have hb5 : Below w4.heap.size w4 w5 := by rw [hw5]; exact (Below.refl _ _).alloc (Nat.le_refl _) _
            have hr5 : Rd w5 (some ⟨w4.heap.size, 0, none⟩) (strs [S]) := by rw [hw5]; exact rd_new w4 (strs [S]) _
            have hcp : countP T [S] = if 4096 < m then (0, 1) else if 524288 < T + m + 16 then (0, 8) else (((T + m + 16 : Nat) : Int), 0) := by
              rw [countP, bigS_one, sizeL_one, hsz]
              simp only [decide_eq_true_eq, Nat.add_assoc]
            have HW5 := Lib.hid hw5
            have HR5 := Lib.hid hr5
            have HCP := Lib.hid hcp
            have H5 := Lib.hid (H4.out.below hb5)
            have HT5 := Lib.hid (HT4.out.then hb5)
            clear hS hsz hml hmr hw5 hr5 hcp hb5
            go_wp2_with fail
            rw [← HW5.out]
            refine (count_is T (some ⟨w4.heap.size, 0, none⟩) 1 1 [S] w5 rfl HR5.out hT5 (Nat.le_of_ble_eq_true rfl)).mono ?_
            rintro e w' ⟨rfl, rfl⟩
            rw [HCP.out]
            clear q2 hcv ez
            by_cases h4 : 4096 < m
            · rw [if_pos h4]
              have HSTOP := Lib.hid (HST.out w5 A8 c8 F8 H5.out HT5.out HF8.out (scan_stop (.inr (.inr (.inr (.inl (by rw [HLEN.out]; exact h4)))))))
              clear HST
              go_wp2_with fail
              go_step3
              show 0 = 0 ∧ EndS (EndR w gl gd F Fd D p (scanB zs)) _ _
              exact ⟨rfl, .mk _ _ _ _ _ _ _ _ _ _ _ _ _ _ _ _ _ _ _ _ _ _ _ _ _ _ _ _ _ _ _ _ _ _ _ _ _ _ _ _ _ _ _ _ _ _ _ _ _ _ _ _ _ _ _ _ _ _ _ _ _ _ _ _ _ _ _ _ _ _ _ _ _ _ _ _ _ HSTOP.out⟩
            · rw [if_neg h4]
              by_cases hT6 : 524288 < T + m + 16
              · rw [if_pos hT6]
                have HSTOP := Lib.hid (HST.out w5 A8 c8 F8 H5.out HT5.out HF8.out (scan_stop (.inr (.inr (.inr (.inr (by rw [HLEN.out]; exact hT6)))))))
                clear HST
                go_wp2_with fail
                go_step3
                show 0 = 0 ∧ EndS (EndR w gl gd F Fd D p (scanB zs)) _ _
                exact ⟨rfl, .mk _ _ _ _ _ _ _ _ _ _ _ _ _ _ _ _ _ _ _ _ _ _ _ _ _ _ _ _ _ _ _ _ _ _ _ _ _ _ _ _ _ _ _ _ _ _ _ _ _ _ _ _ _ _ _ _ _ _ _ _ _ _ _ _ _ _ _ _ _ _ _ _ _ _ _ _ _ HSTOP.out⟩
              · rw [if_neg hT6]
                have hst := scan_step (f := f) (sz := T) (b := zs.drop a) (n := m) (by rw [HDL.out]; exact h3) HLEN.out (by rw [HDL.out]; exact h5) HGD.out h4 hT6
                rw [HS.out, List.drop_drop] at hst
                have hsc := HSC.out
                rw [hst] at hsc
                have HSC2 : Hid (scanB zs = ((l ++ [S]) ++ (scanF f (zs.drop (a + (3 + m))) (T + m + 16)).1, a + (3 + m) + (scanF f (zs.drop (a + (3 + m))) (T + m + 16)).2)) := by
                  show _ = _
                  rw [hsc, Nat.add_comm m 3]
                  simp [List.append_assoc, Nat.add_assoc]
                have q1 := H5.out.c1
                have HRW : Hid (w5.ownsRow 0 9 1 (.slice A8 k8 c8) k8 (strs l)) := by show World.ownsRow _ _ _ _ _ _ _; have := H5.out.row; rwa [HL.out] at this
                obtain ⟨g1, g2, g3⟩ := scan_T hT6 hk9 hk8
                obtain ⟨n1, n2, n3⟩ := scan_arith h5 ha hfl
                have hk68 : k8 + 1 ≤ 68719476736 := by clear j5 i6 i0 h5 h3; omega
                clear HST hst hsc HSC HCP
                go_wp2_with (at_builtin; refine wpList_app_lies _ rfl _ _ 50 rfl 0 9 (.string ByteArray.empty) 16 Try.underlying50 info_str rfl (by decide) _ k8 (strs l) rfl (HRW.out.alloc _) w5.heap.size (.string S) rfl (cell_new _ _ _) rfl hk68 (Nat.zero_le _) ?_)
                intro g' c' w7 ho7 hg7 hl7
                obtain ⟨⟨F7, h7, ht7, hF7⟩, k7, f7⟩ := H5.out.more HL.out (Below.refl _ _) ho7 hg7 (hl7.imp id fun e => e.trans (by simp))
                go_upto_region 10 with fail
                obtain ⟨w8, hw8⟩ : ∃ w8, w8 = w7.setCell ⟨gl, 1, none⟩ (.slice (some ⟨g', 0, none⟩) (k8 + 1) c') := ⟨_, rfl⟩
                rw [← hw8] at h7 ht7 ⊢
                have y2 := h7.c2
                have z2 := h7.fz 2
                have H7 := Lib.hid h7
                have HT7 := Lib.hid (HT5.out.trans ht7 HF8.out)
                have HF7 : Hid (∀ k, F7 k → F k ∨ w.heap.size ≤ k) := fun k hk => by
                  rcases hF7 k hk with h | h
                  · exact HF8.out k h
                  · exact .inr (Nat.le_trans HT5.out.size h)
                clear h7 ht7 hF7 k7 f7 hw8 ho7 hg7 hl7 q1
                go_wp2_with fail
                go_roundw
                case rel =>
                  refine ⟨a + (3 + m), f, T + m + 16, k8 + 1, c', some ⟨g', 0, none⟩, F7, l ++ [S], by go_num, n1, n2, g1, g3, ?_, ?_, g2, HSC2.out, ?_, HT7.out.set (.inl HH.out.here) _, HF7.out⟩
                  · show sizeL (l ++ [S]) = _
                    rw [sizeL_append, sizeL_one, HT.out, HSZ.out, Nat.add_assoc]
                  · show (l ++ [S]).length = _
                    rw [List.length_append, HL.out]
                    rfl
                  · have := H7.out.set2 ((T : Int) + (m : Int) + 16)
                    show LogAt _ _ _ _ _ _ _ _ _ _
                    rw [← cast_16 T m]
                    exact this
                case measure =>
                  have e : (intOf (Value.int .i64 ((a : Int) + (3 + (m : Int))))).toNat = a + (3 + m) := by show ((a : Int) + (3 + (m : Int))).toNat = _; clear j5 i6 i0 h5 h3; omega
                  have e2 : (intOf (Value.int .i64 (a : Int))).toNat = a := rfl
                  simp only [e, e2]
                  exact n3
          · have HSTOP := Lib.hid (HST.out w4 A8 c8 F8 H4.out HT4.out HF8.out (scan_stop (.inr (.inr (.inl (by rw [HLEN.out, HGD.out]; exact hz1))))))
            have jz : (z != 1) = true := by simp [hz1]
            clear HST hz1
            go_wp2_with fail
            go_step3
            show 0 = 0 ∧ EndS (EndR w gl gd F Fd D p (scanB zs)) _ _
            exact ⟨rfl, .mk _ _ _ _ _ _ _ _ _ _ _ _ _ _ _ _ _ _ _ _ _ _ _ _ _ _ _ _ _ _ _ _ _ _ _ _ _ _ _ _ _ _ _ _ _ _ _ _ _ _ _ _ _ _ _ _ _ _ _ _ _ _ _ _ _ _ _ _ _ _ _ _ _ _ _ _ _ HSTOP.out⟩
  · refine endS_elim ?_
    intro u0 u1 u2 u3 u4 u5 u6 u7 u8 u9 u10 u11 u12 u13 u14 u15 u16 u17 u18 u19 u20 u21 u22 u23 u24 u25 u26 u27 u28 u29 u30 u31 u32 u33 u34 u35 u36 u37 u38 u39 u40 u41 u42 u43 u44 u45 u46 u47 u48 u49 u50 u51 u52 u53 u54 u55 u56 u57 u58 u59 u60 u61 u62 u63 u64 u65 u66 u67 u68 u69 u70 u71 u72 u73 u74 u75 w' hR
    obtain ⟨rfl, hto⟩ := hR
    have HTO := Lib.hid hto
    clear hto
    go_wp2_with fail
    simp only [Exit.jump]
    go_ret
    exact ⟨rfl, HTO.out⟩

end Go.Proofs.Ytaccmjgnggepjaa
/-
  The landed package log: Reset.
-/
namespace Go.Proofs.Ytaccmjgnggepjaa
open Go.RowKit

theorem LogAt.make {w w4 : World} {gl gd : Nat} {F Fd : Nat → Prop} {D : PD} {p vL v4 : Value} {z : Int} {l : List ByteArray} (h : LogAt w gl gd F Fd D p vL z l) (hb : Below w.heap.size w w4) (ho : w4.ownsRow w.heap.size 9 1 v4 0 []) :
    (∃ F' : Nat → Prop, LogAt (w4.setCell ⟨gl, 1, none⟩ v4) gl gd F' Fd D p v4 z [] ∧ Touch F w (w4.setCell ⟨gl, 1, none⟩ v4) ∧ ∀ k, F' k → F k ∨ w.heap.size ≤ k) ∧ w4.cell? ⟨gl, 1, none⟩ = some vL ∧ w4.frozen? ⟨gl, 1, none⟩ = false := by
  have h1 := h.row1 (l' := []) (Touch.of hb) (own_low ho fun _ _ => Nat.zero_le _) fun k hk => .inr (own_lt ho hk).2
  have hgl := h.lt _ h.here
  refine ⟨⟨_, h1.1, h1.2, fun k hk => ?_⟩, (hb.cell (p := ⟨gl, 1, none⟩) hgl).trans h.c1, (hb.frozen (p := ⟨gl, 1, none⟩) hgl).trans (h.fz 1)⟩
  rcases hk with hk | hk
  · exact .inl hk
  · exact .inr (own_lt ho hk).2

set_option maxRecDepth 100000 in
set_option maxHeartbeats 8000000 in
theorem lreset_is {gl gd : Nat} {F : Nat → Prop} {S : LS10} (A : Option Addr) (n c : Nat) (l : List ByteArray) (w : World) (h : IsLogG w gl gd F S) (hI : TxtIn w F A n c l) (hn : n ≤ 100000) (hc : S.D.calls ≤ 950000) :
    Calls Try.prog 73 #[.pointer (some ⟨gl, 0, none⟩), .slice A n c] w fun e w' => e = .returned (.int .i64 (resetG S l).2) ∧ logK.To gl gd F (resetG S l).1 w w' := by
  have HI := Lib.hid h
  have HTX := Lib.hid hI
  obtain ⟨Fd, vL, h⟩ := h
  have HFEW := Lib.hid h.few
  have ha := h.at_
  obtain ⟨D, L, dead⟩ := S
  cases dead with
  | true =>
    have c0 : w.cell? ⟨gl, 0, none⟩ = some (.pointer none) := ha.c0
    have hr : resetG ⟨D, L, true⟩ l = (⟨D, L, true⟩, 9) := rfl
    rw [hr]
    clear h ha hr hI
    go_enter Try.func73, Try.ntmps73
    go_wp2_with fail
    go_ret
    exact ⟨rfl, logTo_same HI.out (Below.refl _ _)⟩
  | false =>
    have hat : LogAt w gl gd F Fd D (.pointer (some ⟨gd, 0, none⟩)) vL (sizeL L : Nat) L := ha
    have c0 := hat.c0
    have HH := Lib.hid hat
    obtain ⟨R, hR⟩ : ∃ R, resetG ⟨D, L, false⟩ l = R := ⟨_, rfl⟩
    have hr := hR
    rw [resetG, if_neg (show ¬ (false = true) by decide)] at hr
    rw [hR]
    obtain ⟨E, hE⟩ : ∃ E, replG D (recsB l) = E := ⟨_, rfl⟩
    obtain ⟨T, hT⟩ : ∃ T, sizeL l = T := ⟨_, rfl⟩
    have HR : Hid ((if bigS l = true then ((⟨D, L, false⟩ : LS10), (1 : Int)) else if 524288 < T then (⟨D, L, false⟩, 8) else if E.2 ≠ 0 then (⟨E.1, L, true⟩, E.2) else (⟨E.1, l, false⟩, 0)) = R) := by show _ = _; rw [← hr, ← hE, ← hT]
    have hcal : D.calls ≤ 950000 := hc
    have HT := Lib.hid hT
    have HE := Lib.hid hE
    have hcp : countP 0 l = if bigS l = true then (0, 1) else if 524288 < T then (0, 8) else ((T : Int), 0) := by
      rw [countP, Nat.zero_add, hT]
    have HCP := Lib.hid hcp
    have hsame : ∀ w2, Below w.heap.size w w2 → logK.To gl gd F ⟨D, L, false⟩ w w2 := fun w2 hb => logTo_same HI.out hb
    have HSAME := Lib.hid hsame
    have HCNT := Lib.hid (count_is 0 A n c l w hI.hz hI.rd (by omega) (by omega))
    clear h ha hat hr hR hE hT hcp hsame HI hI
    go_enter Try.func73, Try.ntmps73
    go_wp2_with fail
    refine HCNT.out.mono ?_
    rintro e w' ⟨rfl, rfl⟩
    rw [HCP.out]
    have hr := HR.out
    by_cases hbig : bigS l = true
    · rw [if_pos hbig] at hr ⊢
      have HR2 := Lib.hid hr
      clear hr HR c0 hbig
      go_wp2_with fail
      go_ret
      rw [← HR2.out]
      exact ⟨rfl, HSAME.out _ (Below.refl _ _)⟩
    · rw [if_neg hbig] at hr ⊢
      by_cases hful : 524288 < T
      · rw [if_pos hful] at hr ⊢
        have HR2 := Lib.hid hr
        clear hr HR c0 hbig
        go_wp2_with fail
        go_ret
        rw [← HR2.out]
        exact ⟨rfl, HSAME.out _ (Below.refl _ _)⟩
      · rw [if_neg hful] at hr ⊢
        have HR2 := Lib.hid hr
        have hs4 : ∀ x ∈ l, x.size ≤ 4096 := bigS_no (by simpa using hbig)
        have HS4 := Lib.hid hs4
        have hn5 : n ≤ 32768 := by have h1 := sizeL_len l; have h2 := HT.out; have h3 := HTX.out.hz; omega
        have HPUT := Lib.hid (lput_is A n c l w HTX.out.hz HTX.out.rd hs4 hn)
        obtain ⟨nz, hnz⟩ : ∃ nz, (u8s (recsB l)).length = nz := ⟨_, rfl⟩
        have hnz2 : nz ≤ 524288 := by rw [← hnz, u8s_length]; have h1 := recsB_len l; have h2 := HT.out; omega
        have HNZ := Lib.hid hnz
        clear hr HR hbig hs4 hnz HCNT
        go_wp2_with fail
        refine HPUT.out.mono ?_
        rintro e w2 ⟨v2, rfl, ho2, hb2⟩
        have ho2b := own_cast ho2 HNZ.out
        obtain ⟨A2, c2, rfl, hc2, hm2, hr2, hlo2, _⟩ := own_val ho2b
        have h2 := HH.out.below hb2
        have hG : GivB w2 Fd A2 nz c2 (recsB l) := ⟨by rw [← HNZ.out, u8s_length], hr2, recsB_byts HS4.out, hc2, hm2, by omega, fun a ha _ hf => by have h1 := hlo2 a ha; have h2 := HH.out.lt _ (HH.out.sub _ hf); omega⟩
        have hrep := replace_is A2 nz c2 (recsB l) w2 h2 hcal hG
        rw [HE.out] at hrep
        have HREP := Lib.hid hrep
        have H2 := Lib.hid h2
        have HB2 := Lib.hid hb2
        clear hrep hG h2 ho2 ho2b hlo2 hr2 hb2 HPUT
        go_wp2_with fail
        refine HREP.out.mono ?_
        rintro e w3 ⟨rfl, ht3⟩
        have HT3 := Lib.hid ht3
        have hr := HR2.out
        by_cases he : E.2 = 0
        · have j1 : (E.2 != 0) = false := by simp [he]
          rw [if_neg (by rw [he]; decide)] at hr
          have HR3 := Lib.hid hr
          obtain ⟨x, hx⟩ : ∃ x, E.2 = x := ⟨_, rfl⟩
          rw [hx] at j1 ⊢
          obtain ⟨F3, Fd3, h3, hT3', hF3⟩ := HH.out.disk HB2.out HT3.out
          have H3 := Lib.hid h3
          have HTT3 := Lib.hid hT3'
          have HFF3 := Lib.hid hF3
          clear hr HR2 HREP he hx h3 hT3' hF3 ht3
          go_wp2_with (at_make; refine wpList_make_room _ rfl _ _ 50 rfl w3.heap.size 9 (.string ByteArray.empty) 16 Try.underlying50 info_str (by decide) n rfl (by simp [go_sem]) (by omega) (Nat.le_refl _) ?_)
          intro v4 w4 ho4 hb4
          obtain ⟨⟨F4, h4, ht4, hF4⟩, k4, f4⟩ := H3.out.make hb4 ho4
          obtain ⟨A4, c4, rfl, _, _, _, _, _⟩ := own_val ho4
          go_upto_region 10 with fail
          obtain ⟨w5, hw5⟩ : ∃ w5, w5 = w4.setCell ⟨gl, 1, none⟩ (.slice A4 0 c4) := ⟨_, rfl⟩
          rw [← hw5] at h4 ht4 ⊢
          have H5 := Lib.hid h4
          have HT5 := Lib.hid (HTT3.out.trans ht4 HFF3.out)
          have HF5 : Hid (∀ k, F4 k → F k ∨ w.heap.size ≤ k) := fun k hk => by
            rcases hF4 k hk with h | h
            · exact HFF3.out k h
            · exact .inr (Nat.le_trans HTT3.out.size h)
          clear h4 ht4 hF4 k4 f4 hw5 ho4 hb4
          go_wp2_with fail
          go_loopw [9, 40] (fun _ i wr => ∃ (k : Nat) (A8 : Option Addr) (c8 : Nat) (F8 : Nat → Prop), i = .int .i64 k ∧ k ≤ n ∧ Hid (LogAt wr gl gd F8 Fd3 E.1 (.pointer (some ⟨gd, 0, none⟩)) (.slice A8 k c8) (sizeL L : Nat) (l.take k)) ∧ Hid (Touch F w wr) ∧ Hid (∀ k, F8 k → F k ∨ w.heap.size ≤ k)) (fun _ i _ => n - (intOf i).toNat)
          case atStart => exact ⟨0, A4, c4, F4, rfl, by omega, by rw [List.take_zero]; exact H5.out, HT5.out, HF5.out⟩
          case round =>
            obtain ⟨k, A8, c8, F8, rfl, hk, H8, HT8, HF8⟩ := hrel
            have i0 : (0 : Int) ≤ (k : Int) := by omega
            by_cases hlt : k < n
            · have i1 : (k : Int) < (n : Int) := by omega
              have htx := HTX.out.touch HT8.out HF8.out
              obtain ⟨b, off, rfl, _, hcl⟩ := htx.rd.open_ (by rw [strs_length, htx.hz]; omega)
              have hkl : k < l.length := by rw [htx.hz]; exact hlt
              obtain ⟨x, hx⟩ : ∃ x, x = l[k] := ⟨_, rfl⟩
              have e0 : wr.cell? ⟨b, off + k, none⟩ = some (.string x) := by rw [hx, hcl k _ (strs_at hkl)]; simp [hkl]
              have hat : l[k]? = some x := by rw [hx]; simp [hkl]
              have hsx : x.size ≤ 4096 := HS4.out x (List.mem_of_getElem? hat)
              have HAT := Lib.hid hat
              have k1 := H8.out.c1
              have hg5 : gl < wr.heap.size := H8.out.lt _ H8.out.here
              have hlk : (l.take k).length = k := by rw [List.length_take]; omega
              have HLK := Lib.hid hlk
              have HRW : Hid (wr.ownsRow 0 9 1 (.slice A8 k c8) k (strs (l.take k))) := by show World.ownsRow _ _ _ _ _ _ _; have := H8.out.row; rwa [hlk] at this
              clear hcl hx hat htx hlk
              go_wp2_with fail
              go_region_law (first
                | (refine step_cloneG (by rfl) (by rfl) (by rfl) (clone_any x _ (by omega)) ?_; rintro e w6 ⟨rfl, hb6⟩; refine ⟨_, rfl, ?_⟩; have hx6 : Below wr.heap.size wr w6 := (by first | exact hb6 | exact ((Below.refl _ _).drew).trans hb6); have k6 : w6.cell? ⟨gl, 1, none⟩ = some (.slice A8 k c8) := (hx6.cell (p := ⟨gl, 1, none⟩) hg5).trans k1; have k6a : (w6.alloc (.cells #[.string x] 9)).cell? ⟨gl, 1, none⟩ = some (.slice A8 k c8) := ((hx6.alloc (by have := hx6.size; omega) _).cell (p := ⟨gl, 1, none⟩) hg5).trans k1)
                | (refine step_app_lies _ (by rfl) _ _ _ (by rfl) 0 9 (.string ByteArray.empty) 16 Try.underlying50 info_str rfl (by decide) _ k (strs (l.take k)) (by rfl) ((own_below HRW.out hx6).alloc _) w6.heap.size (.string x) (by rfl) (cell_new _ _ _) (by rfl) (by omega) (Nat.zero_le _) ?_; intro g' c' w7 ho7 hg7 hl7; obtain ⟨hmore, k7, f7⟩ := H8.out.more HLK.out hx6 ho7 hg7 hl7))
              all_goals
                clear k1 k6 k6a k7 f7 ho7 hg7 hl7 hb6 hx6 e0
                go_wp2_with fail
                go_roundw
                case rel =>
                  obtain ⟨F7, h7, ht7, hF7⟩ := hmore
                  rw [← take_up HAT.out] at h7
                  refine ⟨k + 1, some ⟨g', 0, none⟩, c', F7, by go_num, by omega, h7, HT8.out.trans ht7 HF8.out, fun j hj => ?_⟩
                  rcases hF7 j hj with h | h
                  · exact HF8.out j h
                  · exact .inr (Nat.le_trans HT8.out.size h)
                case measure => simp [intOf]; omega
            · have i1 : ¬ ((k : Int) < (n : Int)) := by omega
              obtain rfl : k = n := by omega
              have y2 := H8.out.c2
              have z2 := H8.out.fz 2
              go_wp2_with fail
              go_ret
              rw [← HR3.out]
              have hall : l.take k = l := List.take_of_length_le (by rw [HTX.out.hz]; omega)
              have h8 := H8.out.set2 (T : Int)
              rw [hall] at h8
              refine ⟨rfl, logTo (S' := ⟨E.1, l, false⟩) (F' := F8) (Fd' := Fd3) (p := .pointer (some ⟨gd, 0, none⟩)) (vL := .slice A8 k c8) ?_ rfl ⟨?_, HS4.out⟩ (HT8.out.set (.inl HH.out.here) _) HF8.out⟩
              · show LogAt _ _ _ _ _ _ _ _ ((sizeL l : Nat) : Int) _
                rw [HT.out]
                exact h8
              · show sizeL l ≤ _
                rw [HT.out]
                omega
        · have j1 : (E.2 != 0) = true := by simp [he]
          rw [if_pos he] at hr
          have HR3 := Lib.hid hr
          obtain ⟨x, hx⟩ : ∃ x, E.2 = x := ⟨_, rfl⟩
          rw [hx] at j1 HR3 ⊢
          clear hr HR2 HREP he hx ht3
          go_wp2_with fail
          refine (H2.out.failed HT3.out x).mono ?_
          rintro e w6 ⟨rfl, F6, Fd6, h6, ht6, hF6⟩
          have H6 := Lib.hid h6
          have HT6 := Lib.hid ht6
          have HF6 := Lib.hid hF6
          clear h6 ht6 hF6
          go_wp2_with fail
          go_ret
          rw [← HR3.out]
          exact ⟨rfl, logTo (S' := ⟨E.1, L, true⟩) H6.out rfl HFEW.out ((Touch.of HB2.out).trans HT6.out fun k hk => .inl hk) fun k hk => (HF6.out k hk).imp id fun h => Nat.le_trans HB2.out.size h⟩

end Go.Proofs.Ytaccmjgnggepjaa
/-
  The landed package log: Open; the contracts of the package.
-/
namespace Go.Proofs.Ytaccmjgnggepjaa
open Go.RowKit

theorem read_byts {w : World} {g : Nat} {F : Nat → Prop} {D : PD} (h : IsDisk w g F D) (s : ByteArray) : Byts (dRead D s).1 ∧ (dRead D s).1.length ≤ 1048576 := by
  obtain ⟨vL, l, ms, h⟩ := h
  have nil : Byts ([] : List Int) ∧ ([] : List Int).length ≤ 1048576 := ⟨Byts.nil, by simp⟩
  unfold dRead
  split
  · exact nil
  · split
    · exact nil
    · split
      · rename_i hh
        obtain ⟨m, hm, _, hv, _⟩ := h.there hh
        have hel := h.els m (List.mem_of_getElem? hm)
        show Byts (D.visAt s) ∧ (D.visAt s).length ≤ _
        rw [hv]
        exact ⟨hel.b1, hel.z1⟩
      · exact nil
/-- a new log -/
theorem LogAt.new {w : World} {gd : Nat} {Fd : Nat → Prop} {D : PD} (h : IsDisk w gd Fd D) :
    LogAt (w.alloc (.cells #[.pointer (some ⟨gd, 0, none⟩), .slice none 0 0, .int .i64 0] 86)) w.heap.size gd (fun k => Fd k ∨ k = w.heap.size) Fd D (.pointer (some ⟨gd, 0, none⟩)) (.slice none 0 0) 0 [] := by
  have hb : Below w.heap.size w (w.alloc (.cells #[.pointer (some ⟨gd, 0, none⟩), .slice none 0 0, .int .i64 0] 86)) := (Below.refl _ _).alloc (Nat.le_refl _) _
  refine ⟨heap_alloc_new w _, World.ownsRow_nil _ _ _ _, h.kept hb.size fun k hk => hb.block k (h.lt k hk), fun k hk => .inl hk, ?_, .inr rfl, fun k hk => by simp [Value.ownBlock] at hk, fun hk => Nat.lt_irrefl _ (h.lt _ hk), fun k hk => by simp [Value.ownBlock] at hk⟩
  rintro k (hk | hk)
  · exact Nat.lt_of_lt_of_le (h.lt k hk) hb.size
  · rw [hk]; simp

theorem openG_eq (D : PD) : openG D = (if (dRemove D nNew).2 ≠ 0 ∧ (dRemove D nNew).2 ≠ 3 then (none, (dRemove D nNew).2, (dRemove D nNew).1) else
    if (dRead (dRemove D nNew).1 nLog).2 = 3 then (some ⟨(dRemove D nNew).1, [], false⟩, 0, (dRemove D nNew).1)
    else if (dRead (dRemove D nNew).1 nLog).2 ≠ 0 then (none, (dRead (dRemove D nNew).1 nLog).2, (dRemove D nNew).1)
    else if (cleanG (dRemove D nNew).1 (dRead (dRemove D nNew).1 nLog).1.length (scanB (dRead (dRemove D nNew).1 nLog).1).2).2 ≠ 0 then (none, (cleanG (dRemove D nNew).1 (dRead (dRemove D nNew).1 nLog).1.length (scanB (dRead (dRemove D nNew).1 nLog).1).2).2, (cleanG (dRemove D nNew).1 (dRead (dRemove D nNew).1 nLog).1.length (scanB (dRead (dRemove D nNew).1 nLog).1).2).1)
    else (some ⟨(cleanG (dRemove D nNew).1 (dRead (dRemove D nNew).1 nLog).1.length (scanB (dRead (dRemove D nNew).1 nLog).1).2).1, (scanB (dRead (dRemove D nNew).1 nLog).1).1, false⟩, 0, (cleanG (dRemove D nNew).1 (dRead (dRemove D nNew).1 nLog).1.length (scanB (dRead (dRemove D nNew).1 nLog).1).2).1)) := rfl

theorem openNil_is (w : World) : Calls Try.prog 25 #[.pointer none] w fun e w' => e = .returned (.tuple #[.pointer none, .int .i64 1]) ∧ Below w.heap.size w w' := by
  go_enter Try.func25, Try.ntmps25
  go_wp2_with fail
  go_ret2
  exact ⟨rfl, Below.refl _ _⟩

/-- Open has failed -/
theorem opened_no {gd : Nat} {F Fd : Nat → Prop} {D : PD} {w w' : World} {x : Int} {D' : PD} (ho : openG D = (none, x, D')) (ht : Touch F w w') (hF : ∀ k, Fd k → F k ∨ w.heap.size ≤ k) (hd : IsDisk w' gd Fd D') : logK.Opened gd F D w (.returned (.tuple #[.pointer none, .int .i64 x])) w' := by
  refine ⟨Fd, ht, hF, .inr ⟨?_, ?_, ?_⟩⟩
  · show (openG D).1 = none
    rw [ho]
  · show _ = Ending.returned (.tuple #[.pointer none, .int .i64 (openG D).2.1])
    rw [ho]
  · show IsDisk w' gd Fd (openG D).2.2
    rw [ho]
    exact hd
theorem opened_yes {gl gd : Nat} {F F' Fd : Nat → Prop} {D : PD} {w w' : World} {D' : PD} {l : List ByteArray} {vL : Value} (ho : openG D = (some ⟨D', l, false⟩, 0, D')) (ht : Touch F w w') (hF : ∀ k, F' k → F k ∨ w.heap.size ≤ k) (h : LogAt w' gl gd F' Fd D' (.pointer (some ⟨gd, 0, none⟩)) vL (sizeL l : Nat) l) (hf : sizeL l ≤ 524288 ∧ ∀ s ∈ l, s.size ≤ 4096) : logK.Opened gd F D w (.returned (.tuple #[.pointer (some ⟨gl, 0, none⟩), .int .i64 0])) w' := by
  refine ⟨F', ht, hF, .inl ⟨⟨D', l, false⟩, gl, ?_, ?_, ?_, ?_⟩⟩
  · exact congrArg Prod.fst ho
  · show _ = Ending.returned (.tuple #[.pointer (some ⟨gl, 0, none⟩), .int .i64 (openG D).2.1])
    rw [ho]
  · exact LogAt.in_ (S := ⟨D', l, false⟩) h hf
  · show D' = (openG D).2.2
    rw [ho]

set_option maxRecDepth 100000 in
set_option maxHeartbeats 8000000 in
theorem open_is {gd : Nat} {F : Nat → Prop} {D : PD} (w : World) (h : IsDisk w gd F D) (hc : D.calls ≤ 900000) : Calls Try.prog 25 #[.pointer (some ⟨gd, 0, none⟩)] w (logK.Opened gd F D w) := by
  have hre := remove_is gd nNew w h nNew_max (by omega)
  have ho := openG_eq D
  have hcr := dRemove_calls D nNew
  obtain ⟨r, hr⟩ : ∃ r, dRemove D nNew = r := ⟨_, rfl⟩
  rw [hr] at hre ho hcr
  obtain ⟨R, x1⟩ := r
  simp only at hre ho hcr
  have HRE := Lib.hid hre
  have HO := Lib.hid ho
  clear h hr hre ho
  go_enter Try.func25, Try.ntmps25
  go_wp2_with fail
  refine HRE.out.mono ?_
  rintro e w2 ⟨rfl, F2, hd2, ht2, hF2⟩
  have HD2 := Lib.hid hd2
  have HT2 := Lib.hid ht2
  have HF2 := Lib.hid hF2
  have hrd := read_is gd nLog w2 hd2 nLog_max
  have hrb := read_byts hd2 nLog
  have ho := HO.out
  obtain ⟨q, hq⟩ : ∃ q, dRead R nLog = q := ⟨_, rfl⟩
  rw [hq] at hrd hrb ho
  obtain ⟨zs, x2⟩ := q
  simp only at hrd hrb ho
  have HRD := Lib.hid hrd
  have HRB := Lib.hid hrb
  have HQ := Lib.hid hq
  clear hd2 ht2 hF2 hrd hrb hq HRE HO
  by_cases hbad : x1 ≠ 0 ∧ x1 ≠ 3
  · rw [if_pos hbad] at ho
    have HO := Lib.hid ho
    have j1 : (x1 != 0) = true := by simp [hbad.1]
    have j2 : (x1 != 3) = true := by simp [hbad.2]
    clear ho hbad
    go_wp2_with fail
    go_ret2
    exact opened_no HO.out HT2.out HF2.out HD2.out
  · rw [if_neg hbad] at ho
    have HO := Lib.hid ho
    obtain ⟨nz, hnz⟩ : ∃ nz, zs.length = nz := ⟨_, rfl⟩
    have hnz2 : nz ≤ 1048576 := by rw [← hnz]; exact HRB.out.2
    have HNZ := Lib.hid hnz
    clear ho hnz
    have hcase : x1 = 0 ∨ x1 = 3 := by
      by_cases h0 : x1 = 0
      · exact .inl h0
      · by_cases h3 : x1 = 3
        · exact .inr h3
        · exact absurd ⟨h0, h3⟩ hbad
    clear hbad
    rcases hcase with rfl | rfl
    all_goals
      go_wp2_with fail
      refine HRD.out.mono ?_
      rintro e w3 ⟨v3, rfl, ho3, hb3⟩
      have ho3b := own_cast ho3 ((u8s_length _).trans HNZ.out)
      obtain ⟨A3, c3, rfl, hc3, hm3, hr3, hlo3, _⟩ := own_val ho3b
      have hd3 := HD2.out.kept hb3.size fun k hk => hb3.block k (HD2.out.lt k hk)
      obtain ⟨w4, hw4⟩ : ∃ w4, w4 = w3.alloc (.cells #[.pointer (some ⟨gd, 0, none⟩), .slice none 0 0, .int .i64 0] 86) := ⟨_, rfl⟩
      have hl4 := LogAt.new hd3
      have hb4 : Below w3.heap.size w3 w4 := by rw [hw4]; exact (Below.refl _ _).alloc (Nat.le_refl _) _
      rw [← hw4] at hl4
      have HW4 := Lib.hid hw4
      have HL4 := Lib.hid hl4
      have HB3 := Lib.hid hb3
      have HB4 := Lib.hid hb4
      have HD3 := Lib.hid hd3
      have HT3 : Hid (Touch F w w3) := HT2.out.then hb3
      have HF3 : Hid (∀ k, F2 k → F k ∨ w.heap.size ≤ k) := HF2.out
      have HT4 : Hid (Touch F w w4) := HT3.out.then hb4
      have z2 := HT2.out.size
      have z3 := hb3.size
      have HF4 : Hid (∀ k, (F2 k ∨ k = w3.heap.size) → F k ∨ w.heap.size ≤ k) := fun k hk => by
        rcases hk with hk | hk
        · exact HF2.out k hk
        · right; omega
      have HFAR : Hid (∀ a, A3 = some a → 0 < nz → ¬ (F2 a.block ∨ a.block = w3.heap.size)) := fun a ha h0 hk => by
        have h1 := hlo3 a ha
        obtain ⟨b, off, e, hb, _⟩ := hr3.open_ (by rw [u8s_length, HNZ.out]; exact h0)
        rw [ha] at e
        cases e
        have hb' : b < w3.heap.size := hb
        have h1' : w2.heap.size ≤ b := h1
        rcases hk with hk | hk
        · have h2 : b < w2.heap.size := HD2.out.lt _ hk
          omega
        · have h2 : b = w3.heap.size := hk
          omega
      have HR4 := Lib.hid (hr3.below hb4)
      have ho := HO.out
      by_cases h3 : x2 = 3
      · subst h3
        rw [if_pos rfl] at ho
        have HO2 := Lib.hid ho
        clear ho HO hw4 hl4 hb3 hb4 hd3 ho3 ho3b hlo3 hr3
        go_wp2_with fail
        rw [← HW4.out]
        go_ret2
        exact opened_yes HO2.out HT4.out HF4.out HL4.out ⟨by decide, fun s hs => by simp at hs⟩
      · rw [if_neg h3] at ho
        have k3 : (x2 == 3) = false := by simp [h3]
        by_cases h0 : x2 = 0
        · rw [if_neg (fun h => h h0)] at ho
          have k0 : (x2 != 0) = false := by simp [h0]
          rw [HNZ.out] at ho
          obtain ⟨sb, hsb⟩ : ∃ sb, scanB zs = sb := ⟨_, rfl⟩
          have hfew : sizeL sb.1 ≤ 524288 ∧ ∀ s ∈ sb.1, s.size ≤ 4096 := by
            obtain ⟨l, m, e, _, _, h4, h5⟩ := scan_back (zs.length + 1) zs 0 HRB.out.1 (by omega)
            have e2 : sb = (l, m) := hsb.symm.trans e
            rw [e2]
            exact ⟨by show sizeL l ≤ _; omega, h4⟩
          have hscan := scan_is A3 nz c3 zs w4 hl4 HNZ.out (hr3.below hb4) HRB.out.1 hc3 hm3 (by omega) HFAR.out
          rw [hsb] at ho hscan
          obtain ⟨L, m⟩ := sb
          simp only at ho
          have hcR : R.calls ≤ 950000 := Nat.le_trans hcr (by omega)
          obtain ⟨cl, hcl⟩ : ∃ cl, cleanG R nz m = cl := ⟨_, rfl⟩
          rw [hcl] at ho
          obtain ⟨D', x3⟩ := cl
          simp only at ho
          have HO2 := Lib.hid ho
          have HSCAN := Lib.hid hscan
          have HFEW := Lib.hid hfew
          have HCL := Lib.hid hcl
          clear ho HO hw4 hl4 hb3 hb4 hd3 ho3 ho3b hlo3 hr3 hscan hfew hcl hsb h3 h0
          go_wp2_with fail
          rw [← HW4.out]
          refine HSCAN.out.mono ?_
          rintro e w5 ⟨rfl, A5, c5, F5, h5, ht5, hF5⟩
          have H5 := Lib.hid h5
          have hcln := clean_is nz m w5 h5 hcR
          rw [HCL.out] at hcln
          simp only at hcln
          have HCLN := Lib.hid hcln
          have HT5 := Lib.hid (HT4.out.trans ht5 HF4.out)
          have z4 := HT4.out.size
          have HF5 : Hid (∀ k, F5 k → F k ∨ w.heap.size ≤ k) := fun k hk => by
            rcases hF5 k hk with h | h
            · exact HF4.out k h
            · exact .inr (Nat.le_trans z4 h)
          clear h5 hcln ht5 hF5
          go_wp2_with fail
          refine HCLN.out.mono ?_
          rintro e w6 ⟨rfl, ht6⟩
          have HT6 := Lib.hid ht6
          clear ht6 HCLN HSCAN
          have ho := HO2.out
          by_cases h3 : x3 = 0
          · rw [if_neg (fun h => h h3)] at ho
            have k4 : (x3 != 0) = false := by simp [h3]
            have HO3 := Lib.hid ho
            clear ho HO2 h3
            go_wp2_with fail
            go_ret2
            obtain ⟨F6, Fd6, h6, ht6, hF6⟩ := H5.out.disk (Below.refl _ _) HT6.out
            exact opened_yes HO3.out (HT5.out.trans ht6 HF5.out) (fun k hk => by
              rcases hF6 k hk with h | h
              · exact HF5.out k h
              · exact .inr (Nat.le_trans HT5.out.size h)) h6 HFEW.out
          · rw [if_pos h3] at ho
            have k4 : (x3 != 0) = true := by simp [h3]
            have HO3 := Lib.hid ho
            clear ho HO2 h3
            go_wp2_with fail
            go_ret2
            obtain ⟨Fd6, hd6, ht6, hF6⟩ := HT6.out
            refine opened_no HO3.out (HT5.out.trans ht6 fun k hk => HF5.out k (H5.out.sub k hk)) (fun k hk => ?_) hd6
            rcases hF6 k hk with h | h
            · exact HF5.out k (H5.out.sub k h)
            · exact .inr (Nat.le_trans HT5.out.size h)
        · rw [if_pos h0] at ho
          have k0 : (x2 != 0) = true := by simp [h0]
          have HO2 := Lib.hid ho
          clear ho HO hw4 hl4 hb3 hb4 hd3 ho3 ho3b hlo3 hr3 h3 h0
          go_wp2_with fail
          go_ret2
          exact opened_no HO2.out HT3.out HF3.out HD3.out

theorem logC : LogC logK where
  kept := fun h hs hk => by
    obtain ⟨Fd, vL, h⟩ := h
    exact (h.at_.kept hs hk).in_ h.few
  lt := fun h => by
    obtain ⟨Fd, vL, h⟩ := h
    exact h.lt
  disk := fun h => by
    obtain ⟨Fd, vL, h⟩ := h
    exact ⟨Fd, h.dk, h.sub⟩
  few := fun h => by
    obtain ⟨Fd, vL, h⟩ := h
    exact h.few
  open_ := fun h hc => open_is _ h hc
  openNil := openNil_is
  all_ := fun {w gl gd F S} h => by
    obtain ⟨Fd, vL, h⟩ := h
    have h1 := sizeL_len (LS10.L S)
    exact all_is _ h.at_ (show (LS10.L S).length ≤ 1000000 by have := h.few.1; omega)
  app_ := fun s h hs hc => lapp_is s _ h hs (Nat.le_trans hc (by omega))
  sync_ := fun h hc => lsync_is _ h (Nat.le_trans hc (by omega))
  reset_ := fun A n c l h hI hn _ hc => lreset_is A n c l _ h hI hn (Nat.le_trans hc (by omega))
  costA := costA_G
  costS := costS_G
  costR := costR_G
  costO := costO_G

end Go.Proofs.Ytaccmjgnggepjaa
/-
  The landed log's errors and costs, as package keep asks of them.
-/
namespace Go.Proofs.Ytaccmjgnggepjaa

theorem openG_cases (D : PD) : (∃ S D', openG D = (some S, 0, D')) ∨ (∃ e D', openG D = (none, e, D') ∧ e ≠ 0) := by
  simp only [openG]
  split
  · rename_i h
    exact .inr ⟨_, _, rfl, h.1⟩
  · split
    · exact .inl ⟨_, _, rfl⟩
    · split
      · rename_i h
        exact .inr ⟨_, _, rfl, h⟩
      · split
        · rename_i h
          exact .inr ⟨_, _, rfl, h⟩
        · exact .inl ⟨_, _, rfl⟩
theorem logE : LogE logK where
  bad := fun D h => by
    have h' : (openG D).1 = none := h
    show (openG D).2.1 ≠ 0
    rcases openG_cases D with ⟨S, D', e⟩ | ⟨x, D', e, hx⟩
    · rw [e] at h'
      cases h'
    · rw [e]
      exact hx
  good := fun {D S e D'} h => by
    have h' : openG D = (some S, e, D') := h
    rcases openG_cases D with ⟨S2, D2, e2⟩ | ⟨x, D2, e2, hx⟩
    · rw [e2] at h'
      cases h'
      rfl
    · rw [e2] at h'
      cases h'
  costA := fun S s => by
    show (appG S s).1.D.calls ≤ S.D.calls + 4
    unfold appG
    have h1 := dAppend_calls S.D nLog (recB s)
    (repeat' split) <;> first | (show S.D.calls ≤ _; omega) | (show (dAppend S.D nLog (recB s)).1.calls ≤ _; omega)
  costS := fun S => by
    show (syncG S).1.D.calls ≤ S.D.calls + 4
    unfold syncG
    have h1 := dSync_calls S.D nLog
    (repeat' split) <;> first | (show S.D.calls ≤ _; omega) | (show (dSync S.D nLog).1.calls ≤ _; omega)
  costR := fun S l => by
    show (resetG S l).1.D.calls ≤ S.D.calls + 4
    unfold resetG
    have h1 := replG_calls S.D (recsB l)
    (repeat' split) <;> first | (show S.D.calls ≤ _; omega) | (show (replG S.D (recsB l)).1.calls ≤ _; omega)
  costO := fun D => by
    show (openG D).2.2.calls ≤ D.calls + 4
    have h1 := dRemove_calls D nNew
    have h2 := cleanG_calls (dRemove D nNew).1 (dRead (dRemove D nNew).1 nLog).1.length (scanB (dRead (dRemove D nNew).1 nLog).1).2
    simp only [openG]
    (repeat' split) <;> first | (show (dRemove D nNew).1.calls ≤ _; omega) | (show (cleanG _ _ _).1.calls ≤ _; omega)

end Go.Proofs.Ytaccmjgnggepjaa
