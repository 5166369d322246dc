/-
  What a statement on logs says itself that an act does to records.
-/
import Derived.Test.YtaccmjgnggepjaaKZJ
import Derived.Deep.RegionLaw
import Derived.Laws.BytesArg
namespace Go.Proofs.Ytaccmjgnggepjaa
open Go.RowKit

/-- records handed back, and the error -/
def NextTo (w : World) (Al : Option Addr) (l : List ByteArray) (R : List ByteArray × Int) (e : Ending) (w' : World) : Prop :=
  ∃ (A' : Option Addr) (c' : Nat), e = .returned (.tuple #[.slice A' R.1.length c', .int .i64 R.2]) ∧ True ∧ R.1.length ≤ c' ∧ c' ≤ maxLen ∧ Rd w' A' (strs R.1) ∧ Below w.heap.size w w' ∧ ((A' = Al ∧ R.1 = l) ∨ ∀ a, A' = some a → w.heap.size ≤ a.block)

end Go.Proofs.Ytaccmjgnggepjaa
/-
  One act done to a log; what wakes the statements on logs.
-/
namespace Go.Proofs.Ytaccmjgnggepjaa
open Go.RowKit

theorem LogK.act4 (K : LogK) (S : K.LS) (a : ActG) : K.act S 4 a = K.reset S a.ls := rfl
theorem LogK.act5 (K : LogK) (S : K.LS) (a : ActG) : K.act S 5 a = K.sync S := rfl
theorem LogK.act6 (K : LogK) (S : K.LS) (a : ActG) : K.act S 6 a = K.sync S := rfl
theorem LogK.act3 (K : LogK) (S : K.LS) (a : ActG) {m : Nat} (h : m ≤ 3) : K.act S m a = K.app S a.S := by rw [LogK.act, if_neg (by omega), if_neg (by omega)]
theorem LogC.cost {K : LogK} (hK : LogC K) (S : K.LS) (m : Nat) (a : ActG) : (K.dsk (K.act S m a).1).calls ≤ (K.dsk S).calls + 40000 := by
  unfold LogK.act
  split
  · exact hK.costR _ _
  · split
    · exact Nat.le_trans (hK.costS _) (by omega)
    · exact Nat.le_trans (hK.costA _ _) (by omega)
theorem LogK.To.behind {K : LogK} {gl gd : Nat} {F : Nat → Prop} {S : K.LS} {w w1 w2 : World} (hb : Below w.heap.size w w1) (h : K.To gl gd F S w1 w2) : K.To gl gd F S w w2 := by
  obtain ⟨F', hl, ht, hF⟩ := h
  exact ⟨F', hl, (Touch.of hb : Touch F w w1).trans ht (fun k hk => .inl hk), fun k hk => (hF k hk).imp id fun h => Nat.le_trans hb.size h⟩

/-- a log that is new, on a disk that is new -/
theorem LogC.openS {K : LogK} (hK : LogC K) {gd : Nat} {F : Nat → Prop} {D : PD} {S : K.LS} {w : World} (hd : IsDisk w gd F D) (hc : D.calls ≤ 900000) (ho : K.openL D = (some S, 0, K.dsk S)) :
    Calls Try.prog 25 #[.pointer (some ⟨gd, 0, none⟩)] w fun e w' => ∃ gl, e = .returned (.tuple #[.pointer (some ⟨gl, 0, none⟩), .int .i64 0]) ∧ K.To gl gd F S w w' := by
  refine (hK.open_ hd hc).mono ?_
  rintro e w' ⟨F', ht, hF, ⟨S', gl, h1, h2, h3, h4⟩ | ⟨h1, _⟩⟩
  · rw [ho] at h1 h2
    cases h1
    exact ⟨gl, h2, F', h3, ht, hF⟩
  · rw [ho] at h1
    cases h1

def actA (s : ByteArray) : ActG := ⟨0, s, none, 0, 0, [], none, 0, 0, []⟩
end Go.Proofs.Ytaccmjgnggepjaa
/-
  Records are taken till there is no room, and then none is lost: the walk.
-/
namespace Go.Proofs.Ytaccmjgnggepjaa
open Go.RowKit

theorem conv_rdG (w : World) {A : Option Addr} {n : Nat} {zs : List Int} (hz : zs.length = n) (h0 : 0 < n) (hr : Rd w A (u8s zs)) (c : Nat) :
    (convert 48 9 (.slice A n c)).run Try.prog w = .ok (.string (strOfNums zs)) w := by
  subst hz
  obtain ⟨b, off, rfl, _, hc⟩ := hr.open_ (by rw [u8s_length]; exact h0)
  refine run_convert_bytes_arg w 48 5 Try.underlying48 Try.underlying5 b off zs.length c zs rfl (fun i hi => ?_) 9 Try.underlying9
  rw [hc i _ (u8s_at hi)]
  rw [List.getD_eq_getElem?_getD]
theorem make_q (w : World) (n : Nat) (hn : n ≤ 1048576) : ∃ w3, (Instr.makeSlice 48 (.int .i64 n) (.int .i64 n)).run Try.prog w = .ok (.slice (some ⟨w.heap.size, 0, none⟩) n n) w3 ∧ Rd w3 (some ⟨w.heap.size, 0, none⟩) (u8s (List.replicate n 0)) ∧ Below w.heap.size w w3 := by
  obtain ⟨i0, hi0, hz0, hz1, hz2⟩ := info_parts info_u8
  obtain ⟨M, hM⟩ : ∃ M, M = madeCells (Value.int .u8 0).cells (((n : Nat) : Int).toNat * i0.size) := ⟨_, rfl⟩
  have hMl : M.toList = List.replicate n (.int .u8 0) := by
    rw [hM, hz1, Int.toNat_natCast, Nat.mul_one]
    exact toList_madeCells_one _ _
  have hmk := run_make (P := Try.prog) w 48 5 i0 (.int .u8 0) Try.underlying48 hi0 hz0 .i64 .i64 (n : Int) (n : Int) (by omega) (by omega) (by rw [hz2]; omega) (by omega)
  rw [← hM] at hmk
  refine ⟨_, hmk, ?_, (Below.refl _ _).alloc (Nat.le_refl _) _⟩
  have e : M = (u8s (List.replicate n 0)).toArray := by
    apply Array.toList_inj.1
    rw [hMl]
    simp [u8s]
  rw [e]
  exact rd_new w _ _
theorem strOfNums_size (l : List Int) : (strOfNums l).size = l.length := by
  show (strOfNums l).data.size = _
  simp [strOfNums]
section
variable {q t : ByteArray}
theorem sizeL_rep (hq : q.size = 4096) (k : Nat) : sizeL (List.replicate k q) = k * 4112 := by
  induction k with
  | zero => simp [sizeL]
  | succ k ih => rw [List.replicate_succ, sizeL, ih, hq]; omega
def actR (l : List ByteArray) : ActG := ⟨4, ByteArray.empty, none, 0, 0, l, none, 0, 0, []⟩
variable {K : LogK} {S : K.LS}
theorem LogP.app (hP : LogP K) (hf : hP.Fine S) (s : ByteArray) : (K.app S s).2 = (nextG (K.recs S) 0 (actA s)).2 ∧ K.recs (K.app S s).1 = (nextG (K.recs S) 0 (actA s)).1 ∧ hP.Fine (K.app S s).1 := by
  have h := hP.act 0 (actA s) hf
  rwa [K.act3 S (actA s) (by omega)] at h
theorem LogP.rst (hP : LogP K) (hf : hP.Fine S) (l : List ByteArray) : (K.reset S l).2 = (nextG (K.recs S) 4 (actR l)).2 ∧ K.recs (K.reset S l).1 = (nextG (K.recs S) 4 (actR l)).1 ∧ hP.Fine (K.reset S l).1 := by
  have h := hP.act 4 (actR l) hf
  rwa [K.act4] at h
theorem next_big (ht : t.size = 4097) (l : List ByteArray) : nextG l 0 (actA t) = (l, 1) := by
  rw [nextG, if_neg (by omega), if_neg (by omega), if_pos (by show 4096 < t.size; omega)]
theorem next_room (hq : q.size = 4096) {k : Nat} (h : k < 127) : nextG (List.replicate k q) 0 (actA q) = (List.replicate (k + 1) q, 0) := by
  rw [nextG, if_neg (by omega), if_neg (by omega), if_neg (by show ¬ 4096 < q.size; omega), if_neg (by show ¬ 524288 < _ + q.size + 16; rw [sizeL_rep hq]; omega)]
  rw [List.replicate_succ']
  rfl
theorem next_full (hq : q.size = 4096) : nextG (List.replicate 127 q) 0 (actA q) = (List.replicate 127 q, 8) := by
  rw [nextG, if_neg (by omega), if_neg (by omega), if_neg (by show ¬ 4096 < q.size; omega), if_pos (by show 524288 < _ + q.size + 16; rw [sizeL_rep hq]; omega)]
theorem next_bad (ht : t.size = 4097) (l : List ByteArray) : nextG l 4 (actR [bA, t]) = (l, 1) := by
  rw [nextG, if_pos rfl, if_pos]
  rw [bigS, List.any_eq_true]
  exact ⟨t, by show t ∈ [bA, t]; simp, by rw [decide_eq_true_eq]; omega⟩
theorem next_new (l : List ByteArray) : nextG l 4 (actR [bA]) = ([bA], 0) := by
  rw [nextG, if_pos rfl, if_neg (by decide), if_neg (by decide)]
  rfl
theorem next_two (hq : q.size = 4096) : nextG [bA] 0 (actA q) = ([bA, q], 0) := by
  have h1 : sizeL [bA] = 17 := by decide
  rw [nextG, if_neg (by omega), if_neg (by omega), if_neg (by show ¬ 4096 < q.size; omega), if_neg (by show ¬ 524288 < _ + q.size + 16; rw [h1]; omega)]
  rfl
end

end Go.Proofs.Ytaccmjgnggepjaa
