/-
  A disk that a statement holds, and what must stay as it is; what wakes the statements.
-/
import Derived.Test.YtejfilphnebckaaDHeavy
import Derived.Lib.SlBytesConst
import Derived.Test.YtejfilphnebckaaDCut
import Derived.Test.YtejfilphnebckaaDAppend
import Derived.Test.YtejfilphnebckaaDRename2
import Derived.Test.YtejfilphnebckaaDRemove
import Derived.Test.YtejfilphnebckaaDSync
import Derived.Test.YtejfilphnebckaaDCrash
namespace Go.Proofs.Ytejfilphnebckaa
open Go.RowKit

/-- a disk whose blocks are none of G's -/
def HDG (G : Nat → Prop) (w : World) (g : Nat) (D : PD) : Prop := (∀ k, G k → k < w.heap.size) ∧ ∃ F : Nat → Prop, IsDisk w g F D ∧ ∀ k, F k → ¬ G k
/-- bytes handed in, of G's blocks -/
structure GivG (w : World) (G : Nat → Prop) (A : Option Addr) (n c : Nat) (zs : List Int) : Prop where
  hz : zs.length = n
  rd : Rd w A (u8s zs)
  byt : Byts zs
  hc : n ≤ c
  hm : c ≤ maxLen
  few : n ≤ 1000000
  far : ∀ a, A = some a → 0 < n → G a.block

section
variable {G G' : Nat → Prop} {w w' : World} {g : Nat} {D D' : PD}
theorem HDG.less (h : HDG G w g D) (hs : ∀ k, G' k → G k) : HDG G' w g D := by
  obtain ⟨h1, F, h2, h3⟩ := h
  exact ⟨fun k hk => h1 k (hs k hk), F, h2, fun k hk hg => h3 k hk (hs k hg)⟩
theorem HDG.kept (h : HDG G w g D) (hb : Below w.heap.size w w') : HDG G w' g D := by
  obtain ⟨h1, F, h2, h3⟩ := h
  exact ⟨fun k hk => Nat.lt_of_lt_of_le (h1 k hk) hb.size, F, h2.kept hb.size fun k hk => hb.block k (h2.lt k hk), h3⟩
theorem HDG.wide (h : HDG G w g D) (hb : Below w.heap.size w w') : HDG (fun k => G k ∨ (w.heap.size ≤ k ∧ k < w'.heap.size)) w' g D := by
  obtain ⟨h1, F, h2, h3⟩ := h
  refine ⟨fun k hk => ?_, F, h2.kept hb.size fun k hk => hb.block k (h2.lt k hk), fun k hk hg => ?_⟩
  · rcases hk with hk | hk
    · exact Nat.lt_of_lt_of_le (h1 k hk) hb.size
    · exact hk.2
  · rcases hg with hg | hg
    · exact h3 k hk hg
    · have := h2.lt k hk; omega
theorem HDG.step (h1 : ∀ k, G k → k < w.heap.size) {F : Nat → Prop} (h3 : ∀ k, F k → ¬ G k) (ht : DiskTo g F D' w w') : HDG G w' g D' ∧ Touch (fun k => ¬ G k) w w' := by
  obtain ⟨F', hd, ht, hF⟩ := ht
  refine ⟨⟨fun k hk => Nat.lt_of_lt_of_le (h1 k hk) ht.size, F', hd, fun k hk hg => ?_⟩, ht.mono h3⟩
  rcases hF k hk with h' | h'
  · exact h3 k h' hg
  · have := h1 k hg; omega
theorem touch_below {B : Nat} (ht : Touch (fun k => ¬ k < B) w w') (hB : B ≤ w.heap.size) : Below B w w' := ht.below (fun k hk => by omega) hB
theorem HDG.size {B : Nat} (h : HDG (fun k => k < B) w g D) : B ≤ w.heap.size := by
  rcases Nat.eq_zero_or_pos B with h0 | h0
  · omega
  · have := h.1 (B - 1) (by show B - 1 < B; omega); omega
/-- a new disk -/
theorem newTo_hd {fs : List (ByteArray × List Int)} {F : Nat → Prop} (h : IsDisk w' g F (dNew fs)) (hF : ∀ k, F k → w.heap.size ≤ k) (hb : Below w.heap.size w w') : HDG (fun k => k < w.heap.size) w' g (dNew fs) :=
  ⟨fun k hk => Nat.lt_of_lt_of_le hk hb.size, F, h, fun k hk hg => by have := hF k hk; omega⟩
theorem hd_append (h : HDG G w g D) (s : ByteArray) (A : Option Addr) (nb cb : Nat) (zs : List Int) (hs : s.size ≤ maxLen) (hc : D.calls ≤ 1000000) (hG : GivG w G A nb cb zs) :
    Calls Try.prog 19 #[.pointer (some ⟨g, 0, none⟩), .string s, .slice A nb cb] w fun e w' => e = .returned (.int .i64 (dAppend D s zs).2) ∧ HDG G w' g (dAppend D s zs).1 ∧ Touch (fun k => ¬ G k) w w' := by
  obtain ⟨h1, F, h2, h3⟩ := h
  refine (append_is g s A nb cb zs w h2 hs hc ⟨hG.hz, hG.rd, hG.byt, hG.hc, hG.hm, hG.few, fun a ha h0 hf => h3 _ hf (hG.far a ha h0)⟩).mono ?_
  rintro e w' ⟨rfl, ht⟩
  exact ⟨rfl, HDG.step h1 h3 ht⟩
theorem hd_cut (h : HDG G w g D) (s : ByteArray) (n : Int) (hs : s.size ≤ maxLen) (hc : D.calls ≤ 1000000) :
    Calls Try.prog 22 #[.pointer (some ⟨g, 0, none⟩), .string s, .int .i64 n] w fun e w' => e = .returned (.int .i64 (dCut D s n).2) ∧ HDG G w' g (dCut D s n).1 ∧ Touch (fun k => ¬ G k) w w' := by
  obtain ⟨h1, F, h2, h3⟩ := h
  refine (cut_is g s n w h2 hs hc).mono ?_
  rintro e w' ⟨rfl, ht⟩
  exact ⟨rfl, HDG.step h1 h3 ht⟩
theorem hd_sync (h : HDG G w g D) (s : ByteArray) (hs : s.size ≤ maxLen) (hc : D.calls ≤ 1000000) :
    Calls Try.prog 20 #[.pointer (some ⟨g, 0, none⟩), .string s] w fun e w' => e = .returned (.int .i64 (dSync D s).2) ∧ HDG G w' g (dSync D s).1 ∧ Touch (fun k => ¬ G k) w w' := by
  obtain ⟨h1, F, h2, h3⟩ := h
  refine (sync_is g s w h2 hs hc).mono ?_
  rintro e w' ⟨rfl, ht⟩
  exact ⟨rfl, HDG.step h1 h3 ht⟩
theorem hd_remove (h : HDG G w g D) (s : ByteArray) (hs : s.size ≤ maxLen) (hc : D.calls ≤ 1000000) :
    Calls Try.prog 24 #[.pointer (some ⟨g, 0, none⟩), .string s] w fun e w' => e = .returned (.int .i64 (dRemove D s).2) ∧ HDG G w' g (dRemove D s).1 ∧ Touch (fun k => ¬ G k) w w' := by
  obtain ⟨h1, F, h2, h3⟩ := h
  refine (remove_is g s w h2 hs hc).mono ?_
  rintro e w' ⟨rfl, ht⟩
  exact ⟨rfl, HDG.step h1 h3 ht⟩
theorem hd_rename (h : HDG G w g D) (s b : ByteArray) (hs : s.size ≤ maxLen) (hsb : b.size ≤ maxLen) (hc : D.calls ≤ 1000000) :
    Calls Try.prog 23 #[.pointer (some ⟨g, 0, none⟩), .string s, .string b] w fun e w' => e = .returned (.int .i64 (dRename D s b).2) ∧ HDG G w' g (dRename D s b).1 ∧ Touch (fun k => ¬ G k) w w' := by
  obtain ⟨h1, F, h2, h3⟩ := h
  refine (rename_is g s b w h2 hs hsb hc).mono ?_
  rintro e w' ⟨rfl, ht⟩
  exact ⟨rfl, HDG.step h1 h3 ht⟩
theorem hd_off (h : HDG G w g D) (n : Int) (hn : -9223372036854775808 ≤ n ∧ n ≤ 9223372036854775807) :
    Calls Try.prog 30 #[.pointer (some ⟨g, 0, none⟩), .int .i64 n] w fun e w' => e = .returned (.tuple #[]) ∧ HDG G w' g (dOff D n) ∧ Touch (fun k => ¬ G k) w w' := by
  obtain ⟨h1, F, h2, h3⟩ := h
  refine (off_any g n w h2 hn).mono ?_
  rintro e w' ⟨rfl, hd, ht⟩
  have hg : F g := by obtain ⟨_, _, _, h2⟩ := h2; exact h2.here
  exact ⟨rfl, ⟨fun k hk => Nat.lt_of_lt_of_le (h1 k hk) ht.size, F, hd, h3⟩, ht.mono fun k hk => by subst hk; exact h3 _ hg⟩
theorem hd_read (h : HDG G w g D) (s : ByteArray) (hs : s.size ≤ maxLen) :
    Calls Try.prog 26 #[.pointer (some ⟨g, 0, none⟩), .string s] w (Made2 w.heap.size 5 w (u8s (dRead D s).1) (.int .i64 (dRead D s).2)) := by
  obtain ⟨h1, F, h2, h3⟩ := h
  exact read_is g s w h2 hs
theorem hd_list (h : HDG G w g D) :
    Calls Try.prog 27 #[.pointer (some ⟨g, 0, none⟩)] w (Made2 w.heap.size 9 w (strs (dList D).1) (.int .i64 (dList D).2)) := by
  obtain ⟨h1, F, h2, h3⟩ := h
  exact list_is g w h2
theorem hd_calls (h : HDG G w g D) :
    Calls Try.prog 17 #[.pointer (some ⟨g, 0, none⟩)] w fun e w' => e = .returned (.int .i64 (D.calls : Int)) ∧ w = w' := by
  obtain ⟨h1, F, h2, h3⟩ := h
  exact calls_any g w h2
theorem hd_crash (h : HDG G w g D) (AP : Option Addr) (nP cP : Nat) (ps : List Int) (hP : ps.length = nP) (hr : Rd w AP (i64s ps)) (hc : nP ≤ cP) (hm : cP ≤ maxLen) (hpr : ∀ x ∈ ps, -9223372036854775808 ≤ x ∧ x ≤ 9223372036854775807) :
    Calls Try.prog 25 #[.pointer (some ⟨g, 0, none⟩), .slice AP nP cP] w (FsTo w (dCrash D ps)) := by
  obtain ⟨h1, F, h2, h3⟩ := h
  exact crash_is g AP nP cP ps w h2 hP hr hc hm hpr
end

/-- a new disk without files -/
theorem new_nil (w : World) : Calls Try.prog 10 #[.slice none 0 0] w fun e w' => Below w.heap.size w w' ∧ ∃ g, e = .returned (.tuple #[.pointer (some ⟨g, 0, none⟩), .int .i64 0]) ∧ HDG (fun k => k < w.heap.size) w' g (dNew []) := by
  refine (new_is none 0 0 [] [] w rfl rfl (Rd.nil _ _) (fun f hf => by simp at hf) (fun f hf => by simp at hf) (by omega) (by omega)).mono ?_
  rintro e w' ⟨hb, hif⟩
  rw [if_pos (by rfl)] at hif
  obtain ⟨g, F, rfl, hd, hF⟩ := hif
  exact ⟨hb, g, rfl, newTo_hd hd hF hb⟩

theorem abc_byts : Byts [97, 98, 99] := fun x hx => by
  simp at hx
  rcases hx with rfl | rfl | rfl <;> exact ⟨by decide, by decide⟩
def bA : ByteArray := ⟨#[97]⟩
theorem wake_app : (dAppend (dNew []) bA [97, 98, 99]).2 = 0 ∧ dRead (dAppend (dNew []) bA [97, 98, 99]).1 bA = ([97, 98, 99], 0) := ⟨by decide +kernel, by decide +kernel⟩
theorem rd_mark (w : World) (cs : List Value) (t : TypeId) (fr : Nat × Nat) : Rd (w.alloc (.cells cs.toArray t fr)) (some ⟨w.heap.size, 0, none⟩) cs := fun _ =>
  ⟨w.heap.size, 0, rfl, by simp, fun i v hv => by
    have hb : (w.alloc (.cells cs.toArray t fr)).heap[w.heap.size]? = some (.cells cs.toArray t fr) := heap_alloc_new w _
    rw [Nat.zero_add]
    simp only [World.cell?, hb]
    simpa using hv⟩
/-- a constant's bytes -/
theorem conv_const (w : World) (C : Array Value) (n c : Nat) : (convert 39 39 (.slice (some ⟨w.heap.size, 0, none⟩) n c)).run Try.prog (w.alloc (.cells C 5)) = .ok (.slice (some ⟨w.heap.size, 0, none⟩) n c) (w.alloc (.cells C 5 (C.size, C.size + 1))) :=
  Lib.run_convert_bytes_const (P := Try.prog) w 39 5 C n c Try.underlying39 Try.underlying5

set_option maxRecDepth 100000 in
set_option maxHeartbeats 1600000 in
theorem wakes9_any (w : World) : Calls Try.prog 14 #[] w (Tells w.heap.size w (.bool true)) := by
  have hcv := conv_const
  go_enter Try.func14, Try.ntmps14
  go_wp2_with fail
  refine (new_nil _).mono ?_
  rintro e w2 ⟨hb2, g, rfl, hd2⟩
  have HD := Lib.hid hd2
  clear hd2
  have hz2 := hb2.size
  go_wp2_with fail
  refine (num9_any _ _).mono ?_
  rintro e w' ⟨rfl, rfl⟩
  go_wp2_with fail
  obtain ⟨w3, hw3⟩ : ∃ w3, w3 = w2.alloc (.cells #[.int .u8 97, .int .u8 98, .int .u8 99] 5 (3, 4)) := ⟨_, rfl⟩
  have hb3 : Below w2.heap.size w2 w3 := by rw [hw3]; exact (Below.refl _ _).alloc (Nat.le_refl _) _
  have hr3 : Rd w3 (some ⟨w2.heap.size, 0, none⟩) (u8s [97, 98, 99]) := by rw [hw3]; exact rd_mark w2 (u8s [97, 98, 99]) _ _
  have hz3 : w3.heap.size = w2.heap.size + 1 := by rw [hw3]; simp
  rw [← hw3]
  clear hw3
  refine (hd_append (HD.out.wide hb3) bA (some ⟨w2.heap.size, 0, none⟩) 3 3 [97, 98, 99] (by decide) (by decide) ⟨rfl, hr3, abc_byts, by omega, by decide, by omega, fun a ha _ => by cases ha; exact .inr ⟨Nat.le_refl _, by show w2.heap.size < _; omega⟩⟩).mono ?_
  rintro e w4 ⟨he, hd4, ht4⟩
  rw [wake_app.1] at he
  subst he
  have hb4 : Below w.heap.size w3 w4 := ht4.below (fun k hk => by
    by_cases h' : k < w.heap.size
    · exact absurd (.inl h') hk
    · omega) (by omega)
  have HD4 := Lib.hid hd4
  clear hd4 ht4
  have hz4 := hb4.size
  go_wp2_with fail
  refine (num9_any _ _).mono ?_
  rintro e w' ⟨rfl, rfl⟩
  go_wp2_with fail
  refine (hd_read HD4.out bA (by decide)).mono ?_
  rintro e w5 ⟨v5, rfl, ho5, hb5⟩
  rw [wake_app.2] at ho5 ⊢
  obtain ⟨A5, c5, rfl, hc5, hm5, hr5, _, _⟩ := own_val ho5
  go_wp2_with fail
  refine (num9_any _ _).mono ?_
  rintro e w' ⟨rfl, rfl⟩
  go_wp2_with fail
  obtain ⟨w6, hw6⟩ : ∃ w6, w6 = w5.alloc (.cells #[.int .u8 97, .int .u8 98, .int .u8 99] 5 (3, 4)) := ⟨_, rfl⟩
  have hb6 : Below w5.heap.size w5 w6 := by rw [hw6]; exact (Below.refl _ _).alloc (Nat.le_refl _) _
  have hr6 : Rd w6 (some ⟨w5.heap.size, 0, none⟩) (u8s [97, 98, 99]) := by rw [hw6]; exact rd_mark w5 (u8s [97, 98, 99]) _ _
  rw [← hw6]
  clear hw6
  refine (eqBytes_any A5 (some ⟨w5.heap.size, 0, none⟩) c5 3 3 3 [97, 98, 99] [97, 98, 99] _ rfl rfl (hr5.below hb6) hr6 (by omega) (by omega)).mono ?_
  rintro e w7 ⟨rfl, d, rfl⟩
  have hb7 : Below w.heap.size w (w6.drewN d) := below_n (((hb2.trans (hb3.mono hz2)).trans hb4).trans ((hb5.mono (by omega)).trans (hb6.mono (by have := hb5.size; omega)))) d
  go_wp2_with fail
  go_ret
  exact ⟨rfl, hb7⟩

end Go.Proofs.Ytejfilphnebckaa
