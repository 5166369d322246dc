/-
  What the statements ask of package log, as contracts over plain functions; a log and the records that a statement holds beside it.
-/
import Derived.Test.YtecgagfpckaieaaGHelp
namespace Go.Proofs.Ytecgagfpckaieaa
open Go.RowKit

/-- package log, in plain words: its states, what each call does to them -/
structure LogK where
  LS : Type
  IsLog : World → Nat → Nat → (Nat → Prop) → LS → Prop
  recs : LS → List ByteArray
  dsk : LS → PD
  openL : PD → Option LS × Int × PD
  app : LS → ByteArray → LS × Int
  sync : LS → LS × Int
  reset : LS → List ByteArray → LS × Int
/-- what a call leaves of a log -/
def LogK.To (K : LogK) (gl gd : Nat) (F : Nat → Prop) (S : K.LS) (w w' : World) : Prop := ∃ F' : Nat → Prop, K.IsLog w' gl gd F' S ∧ Touch F w w' ∧ ∀ k, F' k → F k ∨ w.heap.size ≤ k
/-- what Open hands back: the log with its disk, or the disk alone -/
def LogK.Opened (K : LogK) (gd : Nat) (F : Nat → Prop) (D : PD) (w : World) (e : Ending) (w' : World) : Prop :=
  ∃ F' : Nat → Prop, Touch F w w' ∧ (∀ k, F' k → F k ∨ w.heap.size ≤ k) ∧
    ((∃ S gl, (K.openL D).1 = some S ∧ e = .returned (.tuple #[.pointer (some ⟨gl, 0, none⟩), .int .i64 (K.openL D).2.1]) ∧ K.IsLog w' gl gd F' S ∧ K.dsk S = (K.openL D).2.2) ∨
     ((K.openL D).1 = none ∧ e = .returned (.tuple #[.pointer none, .int .i64 (K.openL D).2.1]) ∧ IsDisk w' gd F' (K.openL D).2.2))
/-- a row of texts that is only read, apart from F -/
structure TxtIn (w : World) (F : Nat → Prop) (A : Option Addr) (n c : Nat) (l : List ByteArray) : Prop where
  hz : l.length = n
  rd : Rd w A (strs l)
  hc : n ≤ c
  hm : c ≤ maxLen
  far : ∀ a, A = some a → 0 < n → ¬ F a.block
structure LogC (K : LogK) : Prop where
  kept : ∀ {w w' gl gd F S}, K.IsLog w gl gd F S → w.heap.size ≤ w'.heap.size → (∀ k, F k → w'.heap[k]? = w.heap[k]?) → K.IsLog w' gl gd F S
  lt : ∀ {w gl gd F S}, K.IsLog w gl gd F S → ∀ k, F k → k < w.heap.size
  disk : ∀ {w gl gd F S}, K.IsLog w gl gd F S → ∃ F' : Nat → Prop, IsDisk w gd F' (K.dsk S) ∧ ∀ k, F' k → F k
  few : ∀ {w gl gd F S}, K.IsLog w gl gd F S → sizeL (K.recs S) ≤ 524288 ∧ ∀ s ∈ K.recs S, s.size ≤ 4096
  open_ : ∀ {w gd F D}, IsDisk w gd F D → D.calls ≤ 900000 → Calls Try.prog 8 #[.pointer (some ⟨gd, 0, none⟩)] w (K.Opened gd F D w)
  openNil : ∀ w, Calls Try.prog 8 #[.pointer none] w fun e w' => e = .returned (.tuple #[.pointer none, .int .i64 1]) ∧ Below w.heap.size w w'
  all_ : ∀ {w gl gd F S}, K.IsLog w gl gd F S → Calls Try.prog 12 #[.pointer (some ⟨gl, 0, none⟩)] w (Made w.heap.size 9 w (strs (K.recs S)))
  app_ : ∀ {w gl gd F S} (s : ByteArray), K.IsLog w gl gd F S → s.size ≤ 140737488351232 → (K.dsk S).calls ≤ 900000 → Calls Try.prog 20 #[.pointer (some ⟨gl, 0, none⟩), .string s] w fun e w' => e = .returned (.int .i64 (K.app S s).2) ∧ K.To gl gd F (K.app S s).1 w w'
  sync_ : ∀ {w gl gd F S}, K.IsLog w gl gd F S → (K.dsk S).calls ≤ 900000 → Calls Try.prog 19 #[.pointer (some ⟨gl, 0, none⟩)] w fun e w' => e = .returned (.int .i64 (K.sync S).2) ∧ K.To gl gd F (K.sync S).1 w w'
  reset_ : ∀ {w gl gd F S} (A : Option Addr) (n c : Nat) (l : List ByteArray), K.IsLog w gl gd F S → TxtIn w F A n c l → n ≤ 100000 → (∀ s ∈ l, s.size ≤ 1000000) → (K.dsk S).calls ≤ 900000 → Calls Try.prog 21 #[.pointer (some ⟨gl, 0, none⟩), .slice A n c] w fun e w' => e = .returned (.int .i64 (K.reset S l).2) ∧ K.To gl gd F (K.reset S l).1 w w'
  costA : ∀ S s, (K.dsk (K.app S s).1).calls ≤ (K.dsk S).calls + 1000
  costS : ∀ S, (K.dsk (K.sync S).1).calls ≤ (K.dsk S).calls + 1000
  costR : ∀ S l, (K.dsk (K.reset S l).1).calls ≤ (K.dsk S).calls + 40000
  costO : ∀ D, (K.openL D).2.2.calls ≤ D.calls + 40000

/-! ### in plain words: what is asked of records -/
def bigS (l : List ByteArray) : Bool := l.any fun s => decide (4096 < s.size)
def nextG (l : List ByteArray) (m : Nat) (a : ActG) : List ByteArray × Int :=
  if m = 4 then if bigS a.ls = true then (l, 1) else if 524288 < sizeL a.ls then (l, 8) else (a.ls, 0)
  else if m = 5 ∨ m = 6 then (l, 0)
  else if 4096 < a.S.size then (l, 1) else if 524288 < sizeL l + a.S.size + 16 then (l, 8) else (l ++ [a.S], 0)
def LogK.act (K : LogK) (S : K.LS) (m : Nat) (a : ActG) : K.LS × Int := if m = 4 then K.reset S a.ls else if m = 5 ∨ m = 6 then K.sync S else K.app S a.S
theorem bigS_no {l : List ByteArray} (h : bigS l = false) : ∀ s ∈ l, s.size ≤ 4096 := fun s hs => by
  rw [bigS, List.any_eq_false] at h
  have := h s hs
  simpa using this
theorem nextG_few {l : List ByteArray} {m : Nat} {a : ActG} (h : sizeL l ≤ 524288 ∧ ∀ s ∈ l, s.size ≤ 4096) : sizeL (nextG l m a).1 ≤ 524288 ∧ ∀ s ∈ (nextG l m a).1, s.size ≤ 4096 := by
  unfold nextG
  split
  · split
    · exact h
    · rename_i hb
      split
      · exact h
      · exact ⟨by show sizeL a.ls ≤ _; omega, bigS_no (by simpa using hb)⟩
  · split
    · exact h
    · split
      · exact h
      · split
        · exact h
        · refine ⟨?_, fun s hs => ?_⟩
          · show sizeL (l ++ [a.S]) ≤ _
            rw [sizeL_append]
            simp only [sizeL]
            omega
          · rcases List.mem_append.1 hs with hs | hs
            · exact h.2 s hs
            · rw [List.mem_singleton] at hs
              subst hs
              omega
/-- what package log must do for the statements: while the power stays on -/
structure LogP (K : LogK) where
  Fine : K.LS → Prop
  Last : K.LS → Prop
  start : ∃ S, K.openL (dNew []) = (some S, 0, K.dsk S) ∧ Fine S ∧ K.recs S = []
  act : ∀ {S} (m : Nat) (a : ActG), Fine S → (K.act S m a).2 = (nextG (K.recs S) m a).2 ∧ K.recs (K.act S m a).1 = (nextG (K.recs S) m a).1 ∧ Fine (K.act S m a).1
  sync : ∀ {S}, Fine S → Last (K.sync S).1
  reopen : ∀ {S}, Last S → ∀ ps, ∃ S', K.openL (dNew (dCrash (K.dsk S) ps)) = (some S', 0, K.dsk S') ∧ Fine S' ∧ K.recs S' = K.recs S

theorem box_touchG {w w' : World} {T : Nat → Prop} {gb : Nat} {vs : List Value} (h : Box w gb vs) (ht : Touch T w w') (hn : ¬ T gb) : Box w' gb vs := ⟨Nat.lt_of_lt_of_le h.1 ht.size, fun i v hv => (ht.cell h.1 hn).trans (h.2 i v hv)⟩
section
variable {K : LogK} {B gl gd : Nat} {F F' T : Nat → Prop} {S S' : K.LS} {A : Option Addr} {n c : Nat} {l : List ByteArray} {w w' : World}
theorem TxtIn.touch (h : TxtIn w F A n c l) (ht : Touch F w w') (hF : ∀ k, F' k → F k ∨ w.heap.size ≤ k) : TxtIn w' F' A n c l := by
  refine ⟨h.hz, ?_, h.hc, h.hm, fun a ha h0 hf => ?_⟩
  · rcases Nat.eq_zero_or_pos n with h0 | h0
    · have : l = [] := List.eq_nil_of_length_eq_zero (by rw [h.hz]; exact h0)
      subst this
      exact Rd.nil _ _
    · exact h.rd.kept ht.size fun a ha hl => ht.block _ hl (h.far a ha h0)
  · obtain ⟨b, off, e, hb, _⟩ := h.rd.open_ (by rw [strs_length, h.hz]; exact h0)
    rw [e] at ha
    cases ha
    rcases hF _ hf with h' | h'
    · exact h.far _ e h0 h'
    · exact absurd hb (by show ¬ b < _; exact Nat.not_lt.2 h')
theorem TxtIn.below (h : TxtIn w F A n c l) (hb : Below w.heap.size w w') : TxtIn w' F A n c l := ⟨h.hz, h.rd.below hb, h.hc, h.hm, h.far⟩
theorem TxtIn.nil (w : World) (F : Nat → Prop) : TxtIn w F none 0 0 [] := ⟨rfl, Rd.nil _ _, Nat.le_refl _, by simp [maxLen], fun a h => by cases h⟩
/-- a log, above B -/
structure StG (K : LogK) (B : Nat) (F : Nat → Prop) (gl gd : Nat) (S : K.LS) (w : World) : Prop where
  lg : K.IsLog w gl gd F S
  hi : ∀ k, F k → B ≤ k
  lo : B ≤ w.heap.size
theorem StG.below (hK : LogC K) (h : StG K B F gl gd S w) (hb : Below w.heap.size w w') : StG K B F gl gd S w' :=
  ⟨hK.kept h.lg hb.size fun k hk => hb.block k (hK.lt h.lg k hk), h.hi, Nat.le_trans h.lo hb.size⟩
theorem StG.to (h : StG K B F gl gd S w) (ht : K.To gl gd F S' w w') : ∃ F' : Nat → Prop, StG K B F' gl gd S' w' ∧ Below B w w' ∧ Touch F w w' ∧ ∀ k, F' k → F k ∨ w.heap.size ≤ k := by
  obtain ⟨F', hl, htt, hF⟩ := ht
  refine ⟨F', ⟨hl, fun k hk => ?_, Nat.le_trans h.lo htt.size⟩, htt.below h.hi h.lo, htt, hF⟩
  rcases hF k hk with hk | hk
  · exact h.hi k hk
  · exact Nat.le_trans h.lo hk
theorem StG.spoil (hK : LogC K) (h : StG K B F gl gd S w) (ht : Touch T w w') (hT : ∀ k, T k → ¬ F k ∧ B ≤ k) : StG K B F gl gd S w' ∧ Below B w w' :=
  ⟨⟨hK.kept h.lg ht.size fun k hk => ht.block k (hK.lt h.lg k hk) fun ht => (hT k ht).1 hk, h.hi, Nat.le_trans h.lo ht.size⟩, ht.below (fun k hk => (hT k hk).2) h.lo⟩
theorem StG.hd (hK : LogC K) (h : StG K B F gl gd S w) : HDG (fun k => k < B) w gd (K.dsk S) := by
  obtain ⟨F', hd, hs⟩ := hK.disk h.lg
  exact ⟨fun k hk => Nat.lt_of_lt_of_le hk h.lo, F', hd, fun k hk hB => by have := h.hi k (hs k hk); omega⟩
end

set_option maxHeartbeats 1000000 in
/-- texts written over: only their own row turns -/
theorem spoilStr_far (B : Nat) (v : Value) (n : Nat) (zs : List ByteArray) (w : World) (hown : w.ownsRow B 9 1 v n (strs zs)) (hn : n ≤ 1073741824) :
    Calls Try.prog 14 #[v] w fun e w' => e = .returned (.tuple #[]) ∧ Touch (fun k => v.ownBlock = some k) w w' := by
  obtain ⟨A, c, rfl, hnl, hc, hm, _, _⟩ := own_slice hown
  rw [← hnl] at hown hc ⊢
  unfold maxLen at hm
  have HL : Hid (n = (strs zs).length) := hnl
  clear hnl
  go_enter Try.func14, Try.ntmps14
  go_wp2
  go_loopw [2] (fun i wr => ∃ (k : Nat) (ys : List ByteArray), i = .int .i64 k ∧ k ≤ n ∧ wr.ownsRow 0 9 1 (.slice A n c) n (strs ys) ∧ Touch (fun k => (Value.slice A n c).ownBlock = some k) w wr) (fun i _ => n - (intOf i).toNat)
  case atStart => exact ⟨0, zs, rfl, by omega, own_low hown (fun _ _ => Nat.zero_le _), Touch.refl _ _⟩
  case round =>
    obtain ⟨k, ys, rfl, hk, ho, ht⟩ := hrel
    clear hown
    by_cases hlt : k < n
    · obtain ⟨g, cap, hv, hBg, hglt⟩ := ho.form (by omega)
      simp only [Value.slice.injEq, true_and] at hv
      obtain ⟨rfl, rfl⟩ := hv
      have hyl : ys.length = n := by have := ho.1; rw [strs_length] at this; omega
      have hc1 : wr.cell? ⟨g, k, none⟩ = some (.string (ys[k]?.getD ByteArray.empty)) := by rw [ho.cellAt k (by omega), strs_at (by omega)]
      have hf1 := ho.frozenAt k
      have HY := Lib.hid hyl
      have HT := Lib.hid ht
      clear hyl ht
      have i0 : (0 : Int) ≤ (k : Int) := by omega
      have i1 : (k : Int) < (n : Int) := by omega
      go_wp2
      go_roundw
      case rel =>
        obtain ⟨s1, s2⟩ := ho.stored k (.string ⟨#[115, 112, 111, 105, 108, 116]⟩)
        refine ⟨k + 1, ys.set k (⟨#[115, 112, 111, 105, 108, 116]⟩), by go_num, by omega, ?_, HT.out.set (.inl rfl) _⟩
        rw [show strs (ys.set k (⟨#[115, 112, 111, 105, 108, 116]⟩)) = (strs ys).set k (.string ⟨#[115, 112, 111, 105, 108, 116]⟩) from by simp [strs, List.map_set]]
        exact s1
      case measure => simp [intOf]; omega
    · have i1 : ¬ ((k : Int) < (n : Int)) := by omega
      obtain rfl : k = n := by omega
      have HT := Lib.hid ht
      clear ht
      go_wp2_with (at_builtin; refine wpList_app_lies _ rfl _ _ 34 rfl 0 9 (.string ByteArray.empty) 16 Try.underlying34 info_str rfl (by decide) _ k _ rfl (ho.alloc _) wr.heap.size (.string ⟨#[]⟩) rfl (cell_new _ _ _) rfl (by omega) (by omega) ?_)
      intro g' c' w1 hown1 hg1 _
      have hT := (HT.out.alloc (.cells #[.string ⟨#[]⟩] 9)).trans (Touch.grown (F := fun k' => (Value.slice A k c).ownBlock = some k') hg1 (fun k' e => e)) (fun k' hf => .inl hf)
      go_wp2
      go_end0
      exact ⟨rfl, hT⟩

end Go.Proofs.Ytecgagfpckaieaa
