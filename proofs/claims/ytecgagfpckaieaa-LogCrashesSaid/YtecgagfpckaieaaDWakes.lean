/-
  A disk that a statement holds, and what must stay as it is; what wakes the statements.
-/
import Derived.Test.YtecgagfpckaieaaDHeavy
import Derived.Lib.SlBytesConst
import Derived.Test.YtecgagfpckaieaaDCut
import Derived.Test.YtecgagfpckaieaaDAppend
import Derived.Test.YtecgagfpckaieaaDRename2
import Derived.Test.YtecgagfpckaieaaDRemove
import Derived.Test.YtecgagfpckaieaaDSync
import Derived.Test.YtecgagfpckaieaaDCrash
namespace Go.Proofs.Ytecgagfpckaieaa
open Go.RowKit

/-- a disk whose blocks are none of G's -/
def HDG (G : Nat → Prop) (w : World) (g : Nat) (D : PD) : Prop := (∀ k, G k → k < w.heap.size) ∧ ∃ F : Nat → Prop, IsDisk w g F D ∧ ∀ k, F k → ¬ G k
/-- bytes handed in, of G's blocks -/
structure GivG (w : World) (G : Nat → Prop) (A : Option Addr) (n c : Nat) (zs : List Int) : Prop where
  hz : zs.length = n
  rd : Rd w A (u8s zs)
  byt : Byts zs
  hc : n ≤ c
  hm : c ≤ maxLen
  few : n ≤ 1000000
  far : ∀ a, A = some a → 0 < n → G a.block

section
variable {G G' : Nat → Prop} {w w' : World} {g : Nat} {D D' : PD}
theorem HDG.less (h : HDG G w g D) (hs : ∀ k, G' k → G k) : HDG G' w g D := by
  obtain ⟨h1, F, h2, h3⟩ := h
  exact ⟨fun k hk => h1 k (hs k hk), F, h2, fun k hk hg => h3 k hk (hs k hg)⟩
theorem HDG.kept (h : HDG G w g D) (hb : Below w.heap.size w w') : HDG G w' g D := by
  obtain ⟨h1, F, h2, h3⟩ := h
  exact ⟨fun k hk => Nat.lt_of_lt_of_le (h1 k hk) hb.size, F, h2.kept hb.size fun k hk => hb.block k (h2.lt k hk), h3⟩
theorem HDG.wide (h : HDG G w g D) (hb : Below w.heap.size w w') : HDG (fun k => G k ∨ (w.heap.size ≤ k ∧ k < w'.heap.size)) w' g D := by
  obtain ⟨h1, F, h2, h3⟩ := h
  refine ⟨fun k hk => ?_, F, h2.kept hb.size fun k hk => hb.block k (h2.lt k hk), fun k hk hg => ?_⟩
  · rcases hk with hk | hk
    · exact Nat.lt_of_lt_of_le (h1 k hk) hb.size
    · exact hk.2
  · rcases hg with hg | hg
    · exact h3 k hk hg
    · have := h2.lt k hk; omega
theorem HDG.step (h1 : ∀ k, G k → k < w.heap.size) {F : Nat → Prop} (h3 : ∀ k, F k → ¬ G k) (ht : DiskTo g F D' w w') : HDG G w' g D' ∧ Touch (fun k => ¬ G k) w w' := by
  obtain ⟨F', hd, ht, hF⟩ := ht
  refine ⟨⟨fun k hk => Nat.lt_of_lt_of_le (h1 k hk) ht.size, F', hd, fun k hk hg => ?_⟩, ht.mono h3⟩
  rcases hF k hk with h' | h'
  · exact h3 k h' hg
  · have := h1 k hg; omega
theorem touch_below {B : Nat} (ht : Touch (fun k => ¬ k < B) w w') (hB : B ≤ w.heap.size) : Below B w w' := ht.below (fun k hk => by omega) hB
theorem HDG.size {B : Nat} (h : HDG (fun k => k < B) w g D) : B ≤ w.heap.size := by
  rcases Nat.eq_zero_or_pos B with h0 | h0
  · omega
  · have := h.1 (B - 1) (by show B - 1 < B; omega); omega
/-- a new disk -/
theorem newTo_hd {fs : List (ByteArray × List Int)} {F : Nat → Prop} (h : IsDisk w' g F (dNew fs)) (hF : ∀ k, F k → w.heap.size ≤ k) (hb : Below w.heap.size w w') : HDG (fun k => k < w.heap.size) w' g (dNew fs) :=
  ⟨fun k hk => Nat.lt_of_lt_of_le hk hb.size, F, h, fun k hk hg => by have := hF k hk; omega⟩
theorem hd_append (h : HDG G w g D) (s : ByteArray) (A : Option Addr) (nb cb : Nat) (zs : List Int) (hs : s.size ≤ maxLen) (hc : D.calls ≤ 1000000) (hG : GivG w G A nb cb zs) :
    Calls Try.prog 35 #[.pointer (some ⟨g, 0, none⟩), .string s, .slice A nb cb] w fun e w' => e = .returned (.int .i64 (dAppend D s zs).2) ∧ HDG G w' g (dAppend D s zs).1 ∧ Touch (fun k => ¬ G k) w w' := by
  obtain ⟨h1, F, h2, h3⟩ := h
  refine (append_is g s A nb cb zs w h2 hs hc ⟨hG.hz, hG.rd, hG.byt, hG.hc, hG.hm, hG.few, fun a ha h0 hf => h3 _ hf (hG.far a ha h0)⟩).mono ?_
  rintro e w' ⟨rfl, ht⟩
  exact ⟨rfl, HDG.step h1 h3 ht⟩
theorem hd_cut (h : HDG G w g D) (s : ByteArray) (n : Int) (hs : s.size ≤ maxLen) (hc : D.calls ≤ 1000000) :
    Calls Try.prog 44 #[.pointer (some ⟨g, 0, none⟩), .string s, .int .i64 n] w fun e w' => e = .returned (.int .i64 (dCut D s n).2) ∧ HDG G w' g (dCut D s n).1 ∧ Touch (fun k => ¬ G k) w w' := by
  obtain ⟨h1, F, h2, h3⟩ := h
  refine (cut_is g s n w h2 hs hc).mono ?_
  rintro e w' ⟨rfl, ht⟩
  exact ⟨rfl, HDG.step h1 h3 ht⟩
theorem hd_sync (h : HDG G w g D) (s : ByteArray) (hs : s.size ≤ maxLen) (hc : D.calls ≤ 1000000) :
    Calls Try.prog 32 #[.pointer (some ⟨g, 0, none⟩), .string s] w fun e w' => e = .returned (.int .i64 (dSync D s).2) ∧ HDG G w' g (dSync D s).1 ∧ Touch (fun k => ¬ G k) w w' := by
  obtain ⟨h1, F, h2, h3⟩ := h
  refine (sync_is g s w h2 hs hc).mono ?_
  rintro e w' ⟨rfl, ht⟩
  exact ⟨rfl, HDG.step h1 h3 ht⟩
theorem hd_remove (h : HDG G w g D) (s : ByteArray) (hs : s.size ≤ maxLen) (hc : D.calls ≤ 1000000) :
    Calls Try.prog 24 #[.pointer (some ⟨g, 0, none⟩), .string s] w fun e w' => e = .returned (.int .i64 (dRemove D s).2) ∧ HDG G w' g (dRemove D s).1 ∧ Touch (fun k => ¬ G k) w w' := by
  obtain ⟨h1, F, h2, h3⟩ := h
  refine (remove_is g s w h2 hs hc).mono ?_
  rintro e w' ⟨rfl, ht⟩
  exact ⟨rfl, HDG.step h1 h3 ht⟩
theorem hd_rename (h : HDG G w g D) (s b : ByteArray) (hs : s.size ≤ maxLen) (hsb : b.size ≤ maxLen) (hc : D.calls ≤ 1000000) :
    Calls Try.prog 50 #[.pointer (some ⟨g, 0, none⟩), .string s, .string b] w fun e w' => e = .returned (.int .i64 (dRename D s b).2) ∧ HDG G w' g (dRename D s b).1 ∧ Touch (fun k => ¬ G k) w w' := by
  obtain ⟨h1, F, h2, h3⟩ := h
  refine (rename_is g s b w h2 hs hsb hc).mono ?_
  rintro e w' ⟨rfl, ht⟩
  exact ⟨rfl, HDG.step h1 h3 ht⟩
theorem hd_off (h : HDG G w g D) (n : Int) (hn : -9223372036854775808 ≤ n ∧ n ≤ 9223372036854775807) :
    Calls Try.prog 18 #[.pointer (some ⟨g, 0, none⟩), .int .i64 n] w fun e w' => e = .returned (.tuple #[]) ∧ HDG G w' g (dOff D n) ∧ Touch (fun k => ¬ G k) w w' := by
  obtain ⟨h1, F, h2, h3⟩ := h
  refine (off_any g n w h2 hn).mono ?_
  rintro e w' ⟨rfl, hd, ht⟩
  have hg : F g := by obtain ⟨_, _, _, h2⟩ := h2; exact h2.here
  exact ⟨rfl, ⟨fun k hk => Nat.lt_of_lt_of_le (h1 k hk) ht.size, F, hd, h3⟩, ht.mono fun k hk => by subst hk; exact h3 _ hg⟩
theorem hd_read (h : HDG G w g D) (s : ByteArray) (hs : s.size ≤ maxLen) :
    Calls Try.prog 25 #[.pointer (some ⟨g, 0, none⟩), .string s] w (Made2 w.heap.size 5 w (u8s (dRead D s).1) (.int .i64 (dRead D s).2)) := by
  obtain ⟨h1, F, h2, h3⟩ := h
  exact read_is g s w h2 hs
theorem hd_crash (h : HDG G w g D) (AP : Option Addr) (nP cP : Nat) (ps : List Int) (hP : ps.length = nP) (hr : Rd w AP (i64s ps)) (hc : nP ≤ cP) (hm : cP ≤ maxLen) (hpr : ∀ x ∈ ps, -9223372036854775808 ≤ x ∧ x ≤ 9223372036854775807) :
    Calls Try.prog 31 #[.pointer (some ⟨g, 0, none⟩), .slice AP nP cP] w (FsTo w (dCrash D ps)) := by
  obtain ⟨h1, F, h2, h3⟩ := h
  exact crash_is g AP nP cP ps w h2 hP hr hc hm hpr
end

/-- a new disk without files -/
theorem new_nil (w : World) : Calls Try.prog 23 #[.slice none 0 0] w fun e w' => Below w.heap.size w w' ∧ ∃ g, e = .returned (.tuple #[.pointer (some ⟨g, 0, none⟩), .int .i64 0]) ∧ HDG (fun k => k < w.heap.size) w' g (dNew []) := by
  refine (new_is none 0 0 [] [] w rfl rfl (Rd.nil _ _) (fun f hf => by simp at hf) (fun f hf => by simp at hf) (by omega) (by omega)).mono ?_
  rintro e w' ⟨hb, hif⟩
  rw [if_pos (by rfl)] at hif
  obtain ⟨g, F, rfl, hd, hF⟩ := hif
  exact ⟨hb, g, rfl, newTo_hd hd hF hb⟩

theorem abc_byts : Byts [97, 98, 99] := fun x hx => by
  simp at hx
  rcases hx with rfl | rfl | rfl <;> exact ⟨by decide, by decide⟩
def bA : ByteArray := ⟨#[97]⟩
theorem wake_app : (dAppend (dNew []) bA [97, 98, 99]).2 = 0 ∧ dRead (dAppend (dNew []) bA [97, 98, 99]).1 bA = ([97, 98, 99], 0) := ⟨by decide +kernel, by decide +kernel⟩
theorem rd_mark (w : World) (cs : List Value) (t : TypeId) (fr : Nat × Nat) : Rd (w.alloc (.cells cs.toArray t fr)) (some ⟨w.heap.size, 0, none⟩) cs := fun _ =>
  ⟨w.heap.size, 0, rfl, by simp, fun i v hv => by
    have hb : (w.alloc (.cells cs.toArray t fr)).heap[w.heap.size]? = some (.cells cs.toArray t fr) := heap_alloc_new w _
    rw [Nat.zero_add]
    simp only [World.cell?, hb]
    simpa using hv⟩
/-- a constant's bytes -/
theorem conv_const (w : World) (C : Array Value) (n c : Nat) : (convert 50 50 (.slice (some ⟨w.heap.size, 0, none⟩) n c)).run Try.prog (w.alloc (.cells C 5)) = .ok (.slice (some ⟨w.heap.size, 0, none⟩) n c) (w.alloc (.cells C 5 (C.size, C.size + 1))) :=
  Lib.run_convert_bytes_const (P := Try.prog) w 50 5 C n c Try.underlying50 Try.underlying5

end Go.Proofs.Ytecgagfpckaieaa
