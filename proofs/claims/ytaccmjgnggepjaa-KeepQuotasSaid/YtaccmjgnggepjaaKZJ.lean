/-
  What the statements ask of package log, as contracts over plain functions; a log and the records that a statement holds beside it.
-/
import Derived.Test.YtaccmjgnggepjaaKZI
import Derived.Test.YtaccmjgnggepjaaKZA
import Derived.Test.YtaccmjgnggepjaaKZD
namespace Go.Proofs.Ytaccmjgnggepjaa
open Go.RowKit

/-- package log, in plain words: its states, what each call does to them -/
structure LogK where
  LS : Type
  IsLog : World → Nat → Nat → (Nat → Prop) → LS → Prop
  recs : LS → List ByteArray
  dsk : LS → PD
  openL : PD → Option LS × Int × PD
  app : LS → ByteArray → LS × Int
  sync : LS → LS × Int
  reset : LS → List ByteArray → LS × Int
/-- what a call leaves of a log -/
def LogK.To (K : LogK) (gl gd : Nat) (F : Nat → Prop) (S : K.LS) (w w' : World) : Prop := ∃ F' : Nat → Prop, K.IsLog w' gl gd F' S ∧ Touch F w w' ∧ ∀ k, F' k → F k ∨ w.heap.size ≤ k
/-- what Open hands back: the log with its disk, or the disk alone -/
def LogK.Opened (K : LogK) (gd : Nat) (F : Nat → Prop) (D : PD) (w : World) (e : Ending) (w' : World) : Prop :=
  ∃ F' : Nat → Prop, Touch F w w' ∧ (∀ k, F' k → F k ∨ w.heap.size ≤ k) ∧
    ((∃ S gl, (K.openL D).1 = some S ∧ e = .returned (.tuple #[.pointer (some ⟨gl, 0, none⟩), .int .i64 (K.openL D).2.1]) ∧ K.IsLog w' gl gd F' S ∧ K.dsk S = (K.openL D).2.2) ∨
     ((K.openL D).1 = none ∧ e = .returned (.tuple #[.pointer none, .int .i64 (K.openL D).2.1]) ∧ IsDisk w' gd F' (K.openL D).2.2))
/-- a row of texts that is only read, apart from F -/
structure TxtIn (w : World) (F : Nat → Prop) (A : Option Addr) (n c : Nat) (l : List ByteArray) : Prop where
  hz : l.length = n
  rd : Rd w A (strs l)
  hc : n ≤ c
  hm : c ≤ maxLen
  far : ∀ a, A = some a → 0 < n → ¬ F a.block
structure LogC (K : LogK) : Prop where
  kept : ∀ {w w' gl gd F S}, K.IsLog w gl gd F S → w.heap.size ≤ w'.heap.size → (∀ k, F k → w'.heap[k]? = w.heap[k]?) → K.IsLog w' gl gd F S
  lt : ∀ {w gl gd F S}, K.IsLog w gl gd F S → ∀ k, F k → k < w.heap.size
  disk : ∀ {w gl gd F S}, K.IsLog w gl gd F S → ∃ F' : Nat → Prop, IsDisk w gd F' (K.dsk S) ∧ ∀ k, F' k → F k
  few : ∀ {w gl gd F S}, K.IsLog w gl gd F S → sizeL (K.recs S) ≤ 524288 ∧ ∀ s ∈ K.recs S, s.size ≤ 4096
  open_ : ∀ {w gd F D}, IsDisk w gd F D → D.calls ≤ 900000 → Calls Try.prog 25 #[.pointer (some ⟨gd, 0, none⟩)] w (K.Opened gd F D w)
  openNil : ∀ w, Calls Try.prog 25 #[.pointer none] w fun e w' => e = .returned (.tuple #[.pointer none, .int .i64 1]) ∧ Below w.heap.size w w'
  all_ : ∀ {w gl gd F S}, K.IsLog w gl gd F S → Calls Try.prog 26 #[.pointer (some ⟨gl, 0, none⟩)] w (Made w.heap.size 9 w (strs (K.recs S)))
  app_ : ∀ {w gl gd F S} (s : ByteArray), K.IsLog w gl gd F S → s.size ≤ 140737488351232 → (K.dsk S).calls ≤ 900000 → Calls Try.prog 57 #[.pointer (some ⟨gl, 0, none⟩), .string s] w fun e w' => e = .returned (.int .i64 (K.app S s).2) ∧ K.To gl gd F (K.app S s).1 w w'
  sync_ : ∀ {w gl gd F S}, K.IsLog w gl gd F S → (K.dsk S).calls ≤ 900000 → Calls Try.prog 35 #[.pointer (some ⟨gl, 0, none⟩)] w fun e w' => e = .returned (.int .i64 (K.sync S).2) ∧ K.To gl gd F (K.sync S).1 w w'
  reset_ : ∀ {w gl gd F S} (A : Option Addr) (n c : Nat) (l : List ByteArray), K.IsLog w gl gd F S → TxtIn w F A n c l → n ≤ 100000 → (∀ s ∈ l, s.size ≤ 1000000) → (K.dsk S).calls ≤ 900000 → Calls Try.prog 73 #[.pointer (some ⟨gl, 0, none⟩), .slice A n c] w fun e w' => e = .returned (.int .i64 (K.reset S l).2) ∧ K.To gl gd F (K.reset S l).1 w w'
  costA : ∀ S s, (K.dsk (K.app S s).1).calls ≤ (K.dsk S).calls + 1000
  costS : ∀ S, (K.dsk (K.sync S).1).calls ≤ (K.dsk S).calls + 1000
  costR : ∀ S l, (K.dsk (K.reset S l).1).calls ≤ (K.dsk S).calls + 40000
  costO : ∀ D, (K.openL D).2.2.calls ≤ D.calls + 40000

/-! ### in plain words: what is asked of records -/
def bigS (l : List ByteArray) : Bool := l.any fun s => decide (4096 < s.size)
def nextG (l : List ByteArray) (m : Nat) (a : ActG) : List ByteArray × Int :=
  if m = 4 then if bigS a.ls = true then (l, 1) else if 524288 < sizeL a.ls then (l, 8) else (a.ls, 0)
  else if m = 5 ∨ m = 6 then (l, 0)
  else if 4096 < a.S.size then (l, 1) else if 524288 < sizeL l + a.S.size + 16 then (l, 8) else (l ++ [a.S], 0)
def LogK.act (K : LogK) (S : K.LS) (m : Nat) (a : ActG) : K.LS × Int := if m = 4 then K.reset S a.ls else if m = 5 ∨ m = 6 then K.sync S else K.app S a.S
theorem bigS_no {l : List ByteArray} (h : bigS l = false) : ∀ s ∈ l, s.size ≤ 4096 := fun s hs => by
  rw [bigS, List.any_eq_false] at h
  have := h s hs
  simpa using this
theorem nextG_few {l : List ByteArray} {m : Nat} {a : ActG} (h : sizeL l ≤ 524288 ∧ ∀ s ∈ l, s.size ≤ 4096) : sizeL (nextG l m a).1 ≤ 524288 ∧ ∀ s ∈ (nextG l m a).1, s.size ≤ 4096 := by
  unfold nextG
  split
  · split
    · exact h
    · rename_i hb
      split
      · exact h
      · exact ⟨by show sizeL a.ls ≤ _; omega, bigS_no (by simpa using hb)⟩
  · split
    · exact h
    · split
      · exact h
      · split
        · exact h
        · refine ⟨?_, fun s hs => ?_⟩
          · show sizeL (l ++ [a.S]) ≤ _
            rw [sizeL_append]
            simp only [sizeL]
            omega
          · rcases List.mem_append.1 hs with hs | hs
            · exact h.2 s hs
            · rw [List.mem_singleton] at hs
              subst hs
              omega
/-- what package log must do for the statements: while the power stays on -/
structure LogP (K : LogK) where
  Fine : K.LS → Prop
  Last : K.LS → Prop
  start : ∃ S, K.openL (dNew []) = (some S, 0, K.dsk S) ∧ Fine S ∧ K.recs S = []
  act : ∀ {S} (m : Nat) (a : ActG), Fine S → (K.act S m a).2 = (nextG (K.recs S) m a).2 ∧ K.recs (K.act S m a).1 = (nextG (K.recs S) m a).1 ∧ Fine (K.act S m a).1
  sync : ∀ {S}, Fine S → Last (K.sync S).1
  reopen : ∀ {S}, Last S → ∀ ps, ∃ S', K.openL (dNew (dCrash (K.dsk S) ps)) = (some S', 0, K.dsk S') ∧ Fine S' ∧ K.recs S' = K.recs S

theorem box_touchG {w w' : World} {T : Nat → Prop} {gb : Nat} {vs : List Value} (h : Box w gb vs) (ht : Touch T w w') (hn : ¬ T gb) : Box w' gb vs := ⟨Nat.lt_of_lt_of_le h.1 ht.size, fun i v hv => (ht.cell h.1 hn).trans (h.2 i v hv)⟩
section
variable {K : LogK} {B gl gd : Nat} {F F' T : Nat → Prop} {S S' : K.LS} {A : Option Addr} {n c : Nat} {l : List ByteArray} {w w' : World}
theorem TxtIn.touch (h : TxtIn w F A n c l) (ht : Touch F w w') (hF : ∀ k, F' k → F k ∨ w.heap.size ≤ k) : TxtIn w' F' A n c l := by
  refine ⟨h.hz, ?_, h.hc, h.hm, fun a ha h0 hf => ?_⟩
  · rcases Nat.eq_zero_or_pos n with h0 | h0
    · have : l = [] := List.eq_nil_of_length_eq_zero (by rw [h.hz]; exact h0)
      subst this
      exact Rd.nil _ _
    · exact h.rd.kept ht.size fun a ha hl => ht.block _ hl (h.far a ha h0)
  · obtain ⟨b, off, e, hb, _⟩ := h.rd.open_ (by rw [strs_length, h.hz]; exact h0)
    rw [e] at ha
    cases ha
    rcases hF _ hf with h' | h'
    · exact h.far _ e h0 h'
    · exact absurd hb (by show ¬ b < _; exact Nat.not_lt.2 h')
theorem TxtIn.below (h : TxtIn w F A n c l) (hb : Below w.heap.size w w') : TxtIn w' F A n c l := ⟨h.hz, h.rd.below hb, h.hc, h.hm, h.far⟩
theorem TxtIn.nil (w : World) (F : Nat → Prop) : TxtIn w F none 0 0 [] := ⟨rfl, Rd.nil _ _, Nat.le_refl _, by simp [maxLen], fun a h => by cases h⟩
/-- a log, above B -/
structure StG (K : LogK) (B : Nat) (F : Nat → Prop) (gl gd : Nat) (S : K.LS) (w : World) : Prop where
  lg : K.IsLog w gl gd F S
  hi : ∀ k, F k → B ≤ k
  lo : B ≤ w.heap.size
theorem StG.below (hK : LogC K) (h : StG K B F gl gd S w) (hb : Below w.heap.size w w') : StG K B F gl gd S w' :=
  ⟨hK.kept h.lg hb.size fun k hk => hb.block k (hK.lt h.lg k hk), h.hi, Nat.le_trans h.lo hb.size⟩
theorem StG.to (h : StG K B F gl gd S w) (ht : K.To gl gd F S' w w') : ∃ F' : Nat → Prop, StG K B F' gl gd S' w' ∧ Below B w w' ∧ Touch F w w' ∧ ∀ k, F' k → F k ∨ w.heap.size ≤ k := by
  obtain ⟨F', hl, htt, hF⟩ := ht
  refine ⟨F', ⟨hl, fun k hk => ?_, Nat.le_trans h.lo htt.size⟩, htt.below h.hi h.lo, htt, hF⟩
  rcases hF k hk with hk | hk
  · exact h.hi k hk
  · exact Nat.le_trans h.lo hk
theorem StG.spoil (hK : LogC K) (h : StG K B F gl gd S w) (ht : Touch T w w') (hT : ∀ k, T k → ¬ F k ∧ B ≤ k) : StG K B F gl gd S w' ∧ Below B w w' :=
  ⟨⟨hK.kept h.lg ht.size fun k hk => ht.block k (hK.lt h.lg k hk) fun ht => (hT k ht).1 hk, h.hi, Nat.le_trans h.lo ht.size⟩, ht.below (fun k hk => (hT k hk).2) h.lo⟩
theorem StG.hd (hK : LogC K) (h : StG K B F gl gd S w) : HDG (fun k => k < B) w gd (K.dsk S) := by
  obtain ⟨F', hd, hs⟩ := hK.disk h.lg
  exact ⟨fun k hk => Nat.lt_of_lt_of_le hk h.lo, F', hd, fun k hk hB => by have := h.hi k (hs k hk); omega⟩
end

set_option maxHeartbeats 1000000 in
/-- texts written over: only their own row turns -/
theorem spoilStr_far (B : Nat) (v : Value) (n : Nat) (zs : List ByteArray) (w : World) (hown : w.ownsRow B 9 1 v n (strs zs)) (hn : n ≤ 1073741824) :
    Calls Try.prog 30 #[v] w fun e w' => e = .returned (.tuple #[]) ∧ Touch (fun k => v.ownBlock = some k) w w' := by
  obtain ⟨A, c, rfl, hnl, hc, hm, _, _⟩ := own_slice hown
  rw [← hnl] at hown hc ⊢
  unfold maxLen at hm
  have HL : Hid (n = (strs zs).length) := hnl
  clear hnl
  go_enter Try.func30, Try.ntmps30
  go_wp2
  go_loopw [2] (fun i wr => ∃ (k : Nat) (ys : List ByteArray), i = .int .i64 k ∧ k ≤ n ∧ wr.ownsRow 0 9 1 (.slice A n c) n (strs ys) ∧ Touch (fun k => (Value.slice A n c).ownBlock = some k) w wr) (fun i _ => n - (intOf i).toNat)
  case atStart => exact ⟨0, zs, rfl, by omega, own_low hown (fun _ _ => Nat.zero_le _), Touch.refl _ _⟩
  case round =>
    obtain ⟨k, ys, rfl, hk, ho, ht⟩ := hrel
    clear hown
    by_cases hlt : k < n
    · obtain ⟨g, cap, hv, hBg, hglt⟩ := ho.form (by omega)
      simp only [Value.slice.injEq, true_and] at hv
      obtain ⟨rfl, rfl⟩ := hv
      have hyl : ys.length = n := by have := ho.1; rw [strs_length] at this; omega
      have hc1 : wr.cell? ⟨g, k, none⟩ = some (.string (ys[k]?.getD ByteArray.empty)) := by rw [ho.cellAt k (by omega), strs_at (by omega)]
      have hf1 := ho.frozenAt k
      have HY := Lib.hid hyl
      have HT := Lib.hid ht
      clear hyl ht
      have i0 : (0 : Int) ≤ (k : Int) := by omega
      have i1 : (k : Int) < (n : Int) := by omega
      go_wp2
      go_roundw
      case rel =>
        obtain ⟨s1, s2⟩ := ho.stored k (.string ⟨#[115, 112, 111, 105, 108, 116]⟩)
        refine ⟨k + 1, ys.set k (⟨#[115, 112, 111, 105, 108, 116]⟩), by go_num, by omega, ?_, HT.out.set (.inl rfl) _⟩
        rw [show strs (ys.set k (⟨#[115, 112, 111, 105, 108, 116]⟩)) = (strs ys).set k (.string ⟨#[115, 112, 111, 105, 108, 116]⟩) from by simp [strs, List.map_set]]
        exact s1
      case measure => simp [intOf]; omega
    · have i1 : ¬ ((k : Int) < (n : Int)) := by omega
      obtain rfl : k = n := by omega
      have HT := Lib.hid ht
      clear ht
      go_wp2_with (at_builtin; refine wpList_app_lies _ rfl _ _ 50 rfl 0 9 (.string ByteArray.empty) 16 Try.underlying50 info_str rfl (by decide) _ k _ rfl (ho.alloc _) wr.heap.size (.string ⟨#[]⟩) rfl (cell_new _ _ _) rfl (by omega) (by omega) ?_)
      intro g' c' w1 hown1 hg1 _
      have hT := (HT.out.alloc (.cells #[.string ⟨#[]⟩] 9)).trans (Touch.grown (F := fun k' => (Value.slice A k c).ownBlock = some k') hg1 (fun k' e => e)) (fun k' hf => .inl hf)
      go_wp2
      go_end0
      exact ⟨rfl, hT⟩

end Go.Proofs.Ytaccmjgnggepjaa
/-
  The landed package log in plain words: what stands in its file, what each call does; a log as it lies in memory.
-/
namespace Go.Proofs.Ytaccmjgnggepjaa
open Go.RowKit

def nLog : ByteArray := ⟨#[108, 111, 103]⟩
def nNew : ByteArray := ⟨#[108, 111, 103, 46, 110, 101, 119]⟩
/-- what stands in the file for a record -/
def recB (s : ByteArray) : List Int := ((s.size / 256 : Nat) : Int) :: ((s.size % 256 : Nat) : Int) :: (byt s ++ [1])
def recsB : List ByteArray → List Int
  | [] => []
  | s :: l => recB s ++ recsB l
/-- the length that stands at the beginning -/
def lenB (b : List Int) : Nat := (b.getD 0 0).toNat * 256 + (b.getD 1 0).toNat
/-- the records at the beginning, behind others that count sz, and how many bytes they are -/
def scanF : Nat → List Int → Nat → List ByteArray × Nat
  | 0, _, _ => ([], 0)
  | f + 1, b, sz =>
    if b.length < 3 then ([], 0) else if b.length < lenB b + 3 then ([], 0) else if b.getD (lenB b + 2) 0 ≠ 1 then ([], 0)
    else if 4096 < lenB b then ([], 0) else if 524288 < sz + lenB b + 16 then ([], 0)
    else (strOfNums ((b.drop 2).take (lenB b)) :: (scanF f (b.drop (lenB b + 3)) (sz + lenB b + 16)).1, lenB b + 3 + (scanF f (b.drop (lenB b + 3)) (sz + lenB b + 16)).2)
def scanB (b : List Int) : List ByteArray × Nat := scanF (b.length + 1) b 0

structure LS10 where
  D : PD
  L : List ByteArray
  dead : Bool
/-- clean: the first n bytes of so many, durably -/
def cleanG (D : PD) (z n : Nat) : PD × Int :=
  if n < z then (if (dCut D nLog n).2 = 0 then dSync (dCut D nLog n).1 nLog else dCut D nLog n) else dSync D nLog
def openG (D : PD) : Option LS10 × Int × PD :=
  let r := dRemove D nNew
  if r.2 ≠ 0 ∧ r.2 ≠ 3 then (none, r.2, r.1)
  else
    let q := dRead r.1 nLog
    if q.2 = 3 then (some ⟨r.1, [], false⟩, 0, r.1)
    else if q.2 ≠ 0 then (none, q.2, r.1)
    else
      let x := cleanG r.1 q.1.length (scanB q.1).2
      if x.2 ≠ 0 then (none, x.2, x.1) else (some ⟨x.1, (scanB q.1).1, false⟩, 0, x.1)
def appG (S : LS10) (s : ByteArray) : LS10 × Int :=
  if S.dead = true then (S, 9) else if 4096 < s.size then (S, 1) else if 524288 < sizeL S.L + s.size + 16 then (S, 8)
  else if (dAppend S.D nLog (recB s)).2 ≠ 0 then (⟨(dAppend S.D nLog (recB s)).1, S.L, true⟩, (dAppend S.D nLog (recB s)).2)
  else (⟨(dAppend S.D nLog (recB s)).1, S.L ++ [s], false⟩, 0)
def syncG (S : LS10) : LS10 × Int :=
  if S.dead = true then (S, 9)
  else if (dSync S.D nLog).2 = 0 ∨ ((dSync S.D nLog).2 = 3 ∧ S.L = []) then (⟨(dSync S.D nLog).1, S.L, false⟩, 0)
  else (⟨(dSync S.D nLog).1, S.L, true⟩, (dSync S.D nLog).2)
def replG (D : PD) (b : List Int) : PD × Int :=
  if (dAppend D nNew b).2 ≠ 0 then dAppend D nNew b
  else if (dSync (dAppend D nNew b).1 nNew).2 ≠ 0 then dSync (dAppend D nNew b).1 nNew
  else dRename (dSync (dAppend D nNew b).1 nNew).1 nNew nLog
def resetG (S : LS10) (l : List ByteArray) : LS10 × Int :=
  if S.dead = true then (S, 9) else if bigS l = true then (S, 1) else if 524288 < sizeL l then (S, 8)
  else if (replG S.D (recsB l)).2 ≠ 0 then (⟨(replG S.D (recsB l)).1, S.L, true⟩, (replG S.D (recsB l)).2)
  else (⟨(replG S.D (recsB l)).1, l, false⟩, 0)

/-- a log in memory: its block, its row, its disk -/
structure LogIn (w : World) (gl gd : Nat) (F Fd : Nat → Prop) (S : LS10) (vL : Value) : Prop where
  blk : w.heap[gl]? = some (.cells #[.pointer (if S.dead = true then none else some ⟨gd, 0, none⟩), vL, .int .i64 (sizeL S.L : Nat)] 86 (0, 0))
  row : w.ownsRow 0 9 1 vL S.L.length (strs S.L)
  dk : IsDisk w gd Fd S.D
  sub : ∀ k, Fd k → F k
  lt : ∀ k, F k → k < w.heap.size
  here : F gl
  rowF : ∀ k, vL.ownBlock = some k → F k
  far : ¬ Fd gl
  farR : ∀ k, vL.ownBlock = some k → ¬ Fd k ∧ k ≠ gl
  few : sizeL S.L ≤ 524288 ∧ ∀ s ∈ S.L, s.size ≤ 4096
def IsLogG (w : World) (gl gd : Nat) (F : Nat → Prop) (S : LS10) : Prop := ∃ Fd vL, LogIn w gl gd F Fd S vL
def logK : LogK where
  LS := LS10
  IsLog := IsLogG
  recs := LS10.L
  dsk := LS10.D
  openL := openG
  app := appG
  sync := syncG
  reset := resetG

/-! ### the costs -/
theorem with_calls (D : PD) (L : List PF) : (D.with L).calls = D.calls + 1 := tick_calls D
theorem dOpen_calls {D : PD} {s : ByteArray} {k : PF → PD × Int} (h : ∀ f, (k f).1.calls ≤ D.calls + 1) : (dOpen D s k).1.calls ≤ D.calls + 1 := by
  unfold dOpen
  split
  · show D.calls ≤ _; omega
  · split
    · show D.tick.calls ≤ _; rw [tick_calls]; omega
    · split
      · show D.tick.calls ≤ _; rw [tick_calls]; omega
      · exact h _
theorem dAppend_calls (D : PD) (s : ByteArray) (b : List Int) : (dAppend D s b).1.calls ≤ D.calls + 1 := by
  have h1 := tick_calls D
  unfold dAppend
  split
  · show D.calls ≤ _; omega
  · split
    · show D.tick.calls ≤ _; omega
    · split
      · show D.tick.calls ≤ _; omega
      · split
        · exact Nat.le_of_eq (with_calls _ _)
        · split
          · show D.tick.calls ≤ _; omega
          · exact Nat.le_of_eq (with_calls _ _)
theorem dSync_calls (D : PD) (s : ByteArray) : (dSync D s).1.calls ≤ D.calls + 1 := dOpen_calls fun _ => Nat.le_of_eq (with_calls _ _)
theorem dRemove_calls (D : PD) (s : ByteArray) : (dRemove D s).1.calls ≤ D.calls + 1 := dOpen_calls fun _ => Nat.le_of_eq (with_calls _ _)
theorem dCut_calls (D : PD) (s : ByteArray) (n : Int) : (dCut D s n).1.calls ≤ D.calls + 1 := by
  unfold dCut
  split
  · show D.calls ≤ _; omega
  · refine dOpen_calls fun f => ?_
    split
    · show D.tick.calls ≤ _; rw [tick_calls]; omega
    · exact Nat.le_of_eq (with_calls _ _)
theorem dRename_calls (D : PD) (a b : ByteArray) : (dRename D a b).1.calls ≤ D.calls + 1 := by
  unfold dRename
  split
  · show D.calls ≤ _; omega
  · exact dOpen_calls fun _ => Nat.le_of_eq (with_calls _ _)
theorem cleanG_calls (D : PD) (z n : Nat) : (cleanG D z n).1.calls ≤ D.calls + 2 := by
  unfold cleanG
  have h1 := dCut_calls D nLog n
  have h2 := dSync_calls (dCut D nLog n).1 nLog
  have h3 := dSync_calls D nLog
  (repeat' split) <;> omega
theorem replG_calls (D : PD) (b : List Int) : (replG D b).1.calls ≤ D.calls + 3 := by
  unfold replG
  have h1 := dAppend_calls D nNew b
  have h2 := dSync_calls (dAppend D nNew b).1 nNew
  have h3 := dRename_calls (dSync (dAppend D nNew b).1 nNew).1 nNew nLog
  (repeat' split) <;> omega
theorem costA_G (S : LS10) (s : ByteArray) : (appG S s).1.D.calls ≤ S.D.calls + 1000 := by
  unfold appG
  have h1 := dAppend_calls S.D nLog (recB s)
  (repeat' split) <;> first | (show S.D.calls ≤ _; omega) | (show (dAppend S.D nLog (recB s)).1.calls ≤ _; omega)
theorem costS_G (S : LS10) : (syncG S).1.D.calls ≤ S.D.calls + 1000 := by
  unfold syncG
  have h1 := dSync_calls S.D nLog
  (repeat' split) <;> first | (show S.D.calls ≤ _; omega) | (show (dSync S.D nLog).1.calls ≤ _; omega)
theorem costR_G (S : LS10) (l : List ByteArray) : (resetG S l).1.D.calls ≤ S.D.calls + 40000 := by
  unfold resetG
  have h1 := replG_calls S.D (recsB l)
  (repeat' split) <;> first | (show S.D.calls ≤ _; omega) | (show (replG S.D (recsB l)).1.calls ≤ _; omega)
theorem costO_G (D : PD) : (openG D).2.2.calls ≤ D.calls + 40000 := by
  have h1 := dRemove_calls D nNew
  have h2 := cleanG_calls (dRemove D nNew).1 (dRead (dRemove D nNew).1 nLog).1.length (scanB (dRead (dRemove D nNew).1 nLog).1).2
  simp only [openG]
  (repeat' split) <;> first | (show (dRemove D nNew).1.calls ≤ _; omega) | (show (cleanG _ _ _).1.calls ≤ _; omega)

end Go.Proofs.Ytaccmjgnggepjaa
/-
  A log as it lies in memory, and how it stands behind each step.
-/
namespace Go.Proofs.Ytaccmjgnggepjaa
open Go.RowKit

/-- a log's block, its row, its disk -/
structure LogAt (w : World) (gl gd : Nat) (F Fd : Nat → Prop) (D : PD) (p vL : Value) (z : Int) (l : List ByteArray) : Prop where
  blk : w.heap[gl]? = some (.cells #[p, vL, .int .i64 z] 86 (0, 0))
  row : w.ownsRow 0 9 1 vL l.length (strs l)
  dk : IsDisk w gd Fd D
  sub : ∀ k, Fd k → F k
  lt : ∀ k, F k → k < w.heap.size
  here : F gl
  rowF : ∀ k, vL.ownBlock = some k → F k
  far : ¬ Fd gl
  farR : ∀ k, vL.ownBlock = some k → ¬ Fd k ∧ k ≠ gl

section
variable {w w' w2 : World} {gl gd : Nat} {F F' Fd T : Nat → Prop} {D D' : PD} {p p' vL v' : Value} {z z' : Int} {l l' : List ByteArray}
theorem LogAt.cell (h : LogAt w gl gd F Fd D p vL z l) (o : Nat) : w.cell? ⟨gl, o, none⟩ = #[p, vL, .int .i64 z][o]? := cell_of_row w gl o _ _ _ h.blk
theorem LogAt.c0 (h : LogAt w gl gd F Fd D p vL z l) : w.cell? ⟨gl, 0, none⟩ = some p := h.cell 0
theorem LogAt.c1 (h : LogAt w gl gd F Fd D p vL z l) : w.cell? ⟨gl, 1, none⟩ = some vL := h.cell 1
theorem LogAt.c2 (h : LogAt w gl gd F Fd D p vL z l) : w.cell? ⟨gl, 2, none⟩ = some (.int .i64 z) := h.cell 2
theorem LogAt.fz (h : LogAt w gl gd F Fd D p vL z l) (o : Nat) : w.frozen? ⟨gl, o, none⟩ = false := frozen_of_row w gl o _ _ h.blk
theorem LogAt.kept (h : LogAt w gl gd F Fd D p vL z l) (hs : w.heap.size ≤ w'.heap.size) (hk : ∀ k, F k → w'.heap[k]? = w.heap[k]?) : LogAt w' gl gd F Fd D p vL z l where
  blk := (hk gl h.here).trans h.blk
  row := own_kept h.row fun k hb _ => hk k (h.rowF k hb)
  dk := h.dk.kept hs fun k hf => hk k (h.sub k hf)
  sub := h.sub
  lt := fun k hf => Nat.lt_of_lt_of_le (h.lt k hf) hs
  here := h.here
  rowF := h.rowF
  far := h.far
  farR := h.farR
theorem LogAt.below (h : LogAt w gl gd F Fd D p vL z l) (hb : Below w.heap.size w w') : LogAt w' gl gd F Fd D p vL z l := h.kept hb.size fun k hk => hb.block k (h.lt k hk)
theorem LogAt.same (h : LogAt w gl gd F Fd D p vL z l) (he : w'.heap = w.heap) : LogAt w' gl gd F Fd D p vL z l := h.kept (by rw [he]; exact Nat.le_refl _) fun k _ => by rw [he]
/-- the disk has gone on -/
theorem LogAt.disk (h : LogAt w gl gd F Fd D p vL z l) (hb : Below w.heap.size w w') (ht : DiskTo gd Fd D' w' w2) : ∃ F' Fd' : Nat → Prop, LogAt w2 gl gd F' Fd' D' p vL z l ∧ Touch F w w2 ∧ ∀ k, F' k → F k ∨ w.heap.size ≤ k := by
  obtain ⟨Fd', hd, ht, hF⟩ := ht
  have h1 := h.below hb
  have hz := hb.size
  have hgl := h.lt _ h.here
  have hsub : ∀ k, Fd' k → Fd k ∨ w.heap.size ≤ k := fun k hk => (hF k hk).imp id fun h => Nat.le_trans hz h
  refine ⟨fun k => F k ∨ Fd' k, Fd', ⟨?_, ?_, hd, fun k hk => .inr hk, ?_, .inl h.here, fun k hk => .inl (h.rowF k hk), ?_, ?_⟩, ?_, ?_⟩
  · exact (ht.block gl (h1.lt _ h1.here) h.far).trans h1.blk
  · exact own_kept h1.row fun k hk hl => ht.block k hl (h.farR k hk).1
  · rintro k (hk | hk)
    · exact Nat.lt_of_lt_of_le (h1.lt k hk) ht.size
    · exact hd.lt k hk
  · intro hk
    rcases hsub _ hk with hk | hk
    · exact h.far hk
    · omega
  · intro k hk
    refine ⟨fun hf => ?_, (h.farR k hk).2⟩
    rcases hsub _ hf with hf | hf
    · exact (h.farR k hk).1 hf
    · have := h.lt k (h.rowF k hk); omega
  · exact (Touch.of hb : Touch F w w').trans ht fun k hk => .inl (h.sub k hk)
  · rintro k (hk | hk)
    · exact .inl hk
    · exact (hsub k hk).imp (h.sub k) id
theorem LogAt.cellsTo (h : LogAt w gl gd F Fd D p vL z l) (o : Nat) (v : Value) (hb : (w.setCell ⟨gl, o, none⟩ v).heap[gl]? = some (.cells #[p', vL, .int .i64 z'] 86 (0, 0))) : LogAt (w.setCell ⟨gl, o, none⟩ v) gl gd F Fd D p' vL z' l where
  blk := hb
  row := own_kept h.row fun k hk _ => heap_setCell_other _ ⟨gl, o, none⟩ k _ (h.farR k hk).2
  dk := h.dk.kept (by simp) fun k hk => heap_setCell_other _ ⟨gl, o, none⟩ k _ fun e => by have e' : k = gl := e; rw [e'] at hk; exact h.far hk
  sub := h.sub
  lt := fun k hf => by have := h.lt k hf; simpa using this
  here := h.here
  rowF := h.rowF
  far := h.far
  farR := h.farR
theorem LogAt.set0 (h : LogAt w gl gd F Fd D p vL z l) (u : Value) : LogAt (w.setCell ⟨gl, 0, none⟩ u) gl gd F Fd D u vL z l := h.cellsTo 0 u (heap_setCell_same _ gl 0 _ _ _ h.blk)
theorem LogAt.set2 (h : LogAt w gl gd F Fd D p vL z l) (x : Int) : LogAt (w.setCell ⟨gl, 2, none⟩ (.int .i64 x)) gl gd F Fd D p vL x l := h.cellsTo 2 _ (heap_setCell_same _ gl 2 _ _ _ h.blk)
/-- another row in the place of its own -/
theorem LogAt.row1 (h : LogAt w gl gd F Fd D p vL z l) (ht : Touch (fun k => vL.ownBlock = some k) w w') (ho : w'.ownsRow 0 9 1 v' l'.length (strs l')) (hv : ∀ k, v'.ownBlock = some k → vL.ownBlock = some k ∨ w.heap.size ≤ k) :
    LogAt (w'.setCell ⟨gl, 1, none⟩ v') gl gd (fun k => F k ∨ v'.ownBlock = some k) Fd D p v' z l' ∧ Touch F w (w'.setCell ⟨gl, 1, none⟩ v') := by
  have hgl := h.lt _ h.here
  have hne : ∀ k, v'.ownBlock = some k → ¬ Fd k ∧ k ≠ gl := fun k hk => by
    rcases hv k hk with e | e
    · exact h.farR k e
    · exact ⟨fun hf => by have := h.lt k (h.sub k hf); omega, by omega⟩
  have hbl : w'.heap[gl]? = some (.cells #[p, vL, .int .i64 z] 86 (0, 0)) := (ht.block gl hgl fun e => (h.farR gl e).2 rfl).trans h.blk
  refine ⟨⟨heap_setCell_same _ gl 1 _ _ _ hbl, own_kept ho fun k hk _ => heap_setCell_other _ ⟨gl, 1, none⟩ k _ (hne k hk).2, ?_, fun k hk => .inl (h.sub k hk), ?_, .inl h.here, fun k hk => .inr hk, h.far, hne⟩, ?_⟩
  · refine h.dk.kept (by simpa using ht.size) fun k hk => ?_
    rw [heap_setCell_other _ ⟨gl, 1, none⟩ k _ fun e => by have e' : k = gl := e; rw [e'] at hk; exact h.far hk]
    exact ht.block k (h.lt k (h.sub k hk)) fun e => (h.farR k e).1 hk
  · rintro k (hk | hk)
    · have := h.lt k hk; have := ht.size; simp; omega
    · have := (own_lt ho hk).1; simpa using this
  · exact (ht.mono fun k hk => h.rowF k hk).set (.inl h.here) _
theorem LogAt.ptr {q : Value} (h : LogAt w gl gd F Fd D p vL z l) (e : p = q) : LogAt w gl gd F Fd D q vL z l := e ▸ h
end

def ptrG (d : Bool) (gd : Nat) : Value := .pointer (if d = true then none else some ⟨gd, 0, none⟩)
theorem LogIn.at_ {w : World} {gl gd : Nat} {F Fd : Nat → Prop} {S : LS10} {vL : Value} (h : LogIn w gl gd F Fd S vL) : LogAt w gl gd F Fd S.D (ptrG S.dead gd) vL (sizeL S.L : Nat) S.L :=
  ⟨h.blk, h.row, h.dk, h.sub, h.lt, h.here, h.rowF, h.far, h.farR⟩
theorem LogAt.in_ {w : World} {gl gd : Nat} {F Fd : Nat → Prop} {S : LS10} {vL : Value} (h : LogAt w gl gd F Fd S.D (ptrG S.dead gd) vL (sizeL S.L : Nat) S.L) (hf : sizeL S.L ≤ 524288 ∧ ∀ s ∈ S.L, s.size ≤ 4096) : IsLogG w gl gd F S :=
  ⟨Fd, vL, ⟨h.blk, h.row, h.dk, h.sub, h.lt, h.here, h.rowF, h.far, h.farR, hf⟩⟩

end Go.Proofs.Ytaccmjgnggepjaa
/-
  A store over a log: its states on plain data, and as it lies in memory, and how it stands behind each step.
-/
namespace Go.Proofs.Ytaccmjgnggepjaa
open Go.RowKit

/-! ### in plain words -/
structure KS (K : LogK) where
  S : K.LS
  dead : Bool
  z : Nat
  ps : List PP
def setsP (l : List PP) : List ByteArray := l.map setR
theorem setsP_size : ∀ (l : List PP), sizeL (setsP l) ≤ sizeP l
  | [] => Nat.le_refl _
  | p :: l => by
    have h := setsP_size l
    show (setR p).size + 16 + sizeL (setsP l) ≤ cntP p + sizeP l
    rw [sizeR, cntP]
    omega
def kApp {K : LogK} (s : KS K) (r : ByteArray) : KS K × Int :=
  if (K.app s.S r).2 ≠ 0 then (⟨(K.app s.S r).1, true, s.z, s.ps⟩, (K.app s.S r).2) else (⟨(K.app s.S r).1, false, s.z + (r.size + 16), takeP s.ps r⟩, 0)
def kWrite {K : LogK} (s : KS K) (r : ByteArray) : KS K × Int :=
  if 524288 < s.z + r.size + 16 then
    if (K.reset s.S (setsP s.ps)).2 ≠ 0 then (⟨(K.reset s.S (setsP s.ps)).1, true, s.z, s.ps⟩, (K.reset s.S (setsP s.ps)).2)
    else kApp ⟨(K.reset s.S (setsP s.ps)).1, false, sizeL (setsP s.ps), s.ps⟩ r
  else kApp s r
def kPut {K : LogK} (s : KS K) (k v : ByteArray) : KS K × Int :=
  if s.dead = true then (s, 9) else if checkP s.ps k v ≠ 0 then (s, checkP s.ps k v) else kWrite s (setR (k, v))
def kDrop {K : LogK} (s : KS K) (k : ByteArray) : KS K × Int :=
  if s.dead = true then (s, 9) else if ¬ (1 ≤ k.size ∧ k.size ≤ 32) then (s, 1) else if hasP s.ps k = false then (s, 3) else kWrite s (delR k)
def kSync {K : LogK} (s : KS K) : KS K × Int :=
  if s.dead = true then (s, 9) else if (K.sync s.S).2 ≠ 0 then (⟨(K.sync s.S).1, true, s.z, s.ps⟩, (K.sync s.S).2) else (⟨(K.sync s.S).1, false, s.z, s.ps⟩, 0)
def kFrom {K : LogK} (S : K.LS) : KS K := ⟨S, false, sizeL (K.recs S), playP [] (K.recs S)⟩
def kOpen (K : LogK) (D : PD) : Option (KS K) × Int × PD :=
  match K.openL D with
  | (some S, e, D') => if e ≠ 0 then (none, e, D') else (some (kFrom S), 0, D')
  | (none, e, D') => (none, e, D')

/-! ### in memory -/
structure KeepAt (K : LogK) (w : World) (gk gl gd : Nat) (F FL : Nat → Prop) (S : K.LS) (p vP : Value) (z zs : Int) (l : List PP) : Prop where
  blk : w.heap[gk]? = some (.cells #[p, .int .i64 z, vP, .int .i64 zs] 61 (0, 0))
  row : w.ownsRow 0 65 2 vP l.length (cellsP l)
  lg : K.IsLog w gl gd FL S
  sub : ∀ k, FL k → F k
  lt : ∀ k, F k → k < w.heap.size
  here : F gk
  rowF : ∀ k, vP.ownBlock = some k → F k
  far : ¬ FL gk
  farR : ∀ k, vP.ownBlock = some k → ¬ FL k ∧ k ≠ gk

section
variable {K : LogK} {w w' w2 : World} {gk gl gd : Nat} {F F' FL T : Nat → Prop} {S S' : K.LS} {p p' vP v' : Value} {z z' zs zs' : Int} {l l' : List PP}
theorem KeepAt.cell (h : KeepAt K w gk gl gd F FL S p vP z zs l) (o : Nat) : w.cell? ⟨gk, o, none⟩ = #[p, .int .i64 z, vP, .int .i64 zs][o]? := cell_of_row w gk o _ _ _ h.blk
theorem KeepAt.c0 (h : KeepAt K w gk gl gd F FL S p vP z zs l) : w.cell? ⟨gk, 0, none⟩ = some p := h.cell 0
theorem KeepAt.c1 (h : KeepAt K w gk gl gd F FL S p vP z zs l) : w.cell? ⟨gk, 1, none⟩ = some (.int .i64 z) := h.cell 1
theorem KeepAt.c2 (h : KeepAt K w gk gl gd F FL S p vP z zs l) : w.cell? ⟨gk, 2, none⟩ = some vP := h.cell 2
theorem KeepAt.c3 (h : KeepAt K w gk gl gd F FL S p vP z zs l) : w.cell? ⟨gk, 3, none⟩ = some (.int .i64 zs) := h.cell 3
theorem KeepAt.fz (h : KeepAt K w gk gl gd F FL S p vP z zs l) (o : Nat) : w.frozen? ⟨gk, o, none⟩ = false := frozen_of_row w gk o _ _ h.blk
theorem KeepAt.kept (hK : LogC K) (h : KeepAt K w gk gl gd F FL S p vP z zs l) (hs : w.heap.size ≤ w'.heap.size) (hk : ∀ k, F k → w'.heap[k]? = w.heap[k]?) : KeepAt K w' gk gl gd F FL S p vP z zs l where
  blk := (hk gk h.here).trans h.blk
  row := own_kept h.row fun k hb _ => hk k (h.rowF k hb)
  lg := hK.kept h.lg hs fun k hf => hk k (h.sub k hf)
  sub := h.sub
  lt := fun k hf => Nat.lt_of_lt_of_le (h.lt k hf) hs
  here := h.here
  rowF := h.rowF
  far := h.far
  farR := h.farR
theorem KeepAt.below (hK : LogC K) (h : KeepAt K w gk gl gd F FL S p vP z zs l) (hb : Below w.heap.size w w') : KeepAt K w' gk gl gd F FL S p vP z zs l := h.kept hK hb.size fun k hk => hb.block k (h.lt k hk)
theorem KeepAt.same (hK : LogC K) (h : KeepAt K w gk gl gd F FL S p vP z zs l) (he : w'.heap = w.heap) : KeepAt K w' gk gl gd F FL S p vP z zs l := h.kept hK (by rw [he]; exact Nat.le_refl _) fun k _ => by rw [he]
/-- the log has gone on -/
theorem KeepAt.log (hK : LogC K) (h : KeepAt K w gk gl gd F FL S p vP z zs l) (hb : Below w.heap.size w w') (ht : K.To gl gd FL S' w' w2) : ∃ F' FL' : Nat → Prop, KeepAt K w2 gk gl gd F' FL' S' p vP z zs l ∧ Touch F w w2 ∧ ∀ k, F' k → F k ∨ w.heap.size ≤ k := by
  obtain ⟨FL', hd, ht, hF⟩ := ht
  have h1 := h.below hK hb
  have hz := hb.size
  have hgk := h.lt _ h.here
  have hsub : ∀ k, FL' k → FL k ∨ w.heap.size ≤ k := fun k hk => (hF k hk).imp id fun h => Nat.le_trans hz h
  refine ⟨fun k => F k ∨ FL' k, FL', ⟨?_, ?_, hd, fun k hk => .inr hk, ?_, .inl h.here, fun k hk => .inl (h.rowF k hk), ?_, ?_⟩, ?_, ?_⟩
  · exact (ht.block gk (h1.lt _ h1.here) h.far).trans h1.blk
  · exact own_kept h1.row fun k hk hl => ht.block k hl (h.farR k hk).1
  · rintro k (hk | hk)
    · exact Nat.lt_of_lt_of_le (h1.lt k hk) ht.size
    · exact hK.lt hd k hk
  · intro hk
    rcases hsub _ hk with hk | hk
    · exact h.far hk
    · omega
  · intro k hk
    refine ⟨fun hf => ?_, (h.farR k hk).2⟩
    rcases hsub _ hf with hf | hf
    · exact (h.farR k hk).1 hf
    · have := h.lt k (h.rowF k hk); omega
  · exact (Touch.of hb : Touch F w w').trans ht fun k hk => .inl (h.sub k hk)
  · rintro k (hk | hk)
    · exact .inl hk
    · exact (hsub k hk).imp (h.sub k) id
theorem KeepAt.cellsTo (hK : LogC K) (h : KeepAt K w gk gl gd F FL S p vP z zs l) (o : Nat) (v : Value) (hb : (w.setCell ⟨gk, o, none⟩ v).heap[gk]? = some (.cells #[p', .int .i64 z', vP, .int .i64 zs'] 61 (0, 0))) : KeepAt K (w.setCell ⟨gk, o, none⟩ v) gk gl gd F FL S p' vP z' zs' l where
  blk := hb
  row := own_kept h.row fun k hk _ => heap_setCell_other _ ⟨gk, o, none⟩ k _ (h.farR k hk).2
  lg := hK.kept h.lg (by simp) fun k hk => heap_setCell_other _ ⟨gk, o, none⟩ k _ fun e => by have e' : k = gk := e; rw [e'] at hk; exact h.far hk
  sub := h.sub
  lt := fun k hf => by have := h.lt k hf; simpa using this
  here := h.here
  rowF := h.rowF
  far := h.far
  farR := h.farR
theorem KeepAt.set0 (hK : LogC K) (h : KeepAt K w gk gl gd F FL S p vP z zs l) (u : Value) : KeepAt K (w.setCell ⟨gk, 0, none⟩ u) gk gl gd F FL S u vP z zs l := h.cellsTo hK 0 u (heap_setCell_same _ gk 0 _ _ _ h.blk)
theorem KeepAt.set1 (hK : LogC K) (h : KeepAt K w gk gl gd F FL S p vP z zs l) (x : Int) : KeepAt K (w.setCell ⟨gk, 1, none⟩ (.int .i64 x)) gk gl gd F FL S p vP x zs l := h.cellsTo hK 1 _ (heap_setCell_same _ gk 1 _ _ _ h.blk)
theorem KeepAt.set3 (hK : LogC K) (h : KeepAt K w gk gl gd F FL S p vP z zs l) (x : Int) : KeepAt K (w.setCell ⟨gk, 3, none⟩ (.int .i64 x)) gk gl gd F FL S p vP z x l := h.cellsTo hK 3 _ (heap_setCell_same _ gk 3 _ _ _ h.blk)
/-- another row in the place of its own -/
theorem KeepAt.row2 (hK : LogC K) (h : KeepAt K w gk gl gd F FL S p vP z zs l) (ht : Touch (fun k => vP.ownBlock = some k) w w') (ho : w'.ownsRow 0 65 2 v' l'.length (cellsP l')) (hv : ∀ k, v'.ownBlock = some k → vP.ownBlock = some k ∨ w.heap.size ≤ k) :
    KeepAt K (w'.setCell ⟨gk, 2, none⟩ v') gk gl gd (fun k => F k ∨ v'.ownBlock = some k) FL S p v' z zs l' ∧ Touch F w (w'.setCell ⟨gk, 2, none⟩ v') := by
  have hgk := h.lt _ h.here
  have hne : ∀ k, v'.ownBlock = some k → ¬ FL k ∧ k ≠ gk := fun k hk => by
    rcases hv k hk with e | e
    · exact h.farR k e
    · exact ⟨fun hf => by have := h.lt k (h.sub k hf); omega, by omega⟩
  have hbl : w'.heap[gk]? = some (.cells #[p, .int .i64 z, vP, .int .i64 zs] 61 (0, 0)) := (ht.block gk hgk fun e => (h.farR gk e).2 rfl).trans h.blk
  refine ⟨⟨heap_setCell_same _ gk 2 _ _ _ hbl, own_kept ho fun k hk _ => heap_setCell_other _ ⟨gk, 2, none⟩ k _ (hne k hk).2, ?_, fun k hk => .inl (h.sub k hk), ?_, .inl h.here, fun k hk => .inr hk, h.far, hne⟩, ?_⟩
  · refine hK.kept h.lg (by simpa using ht.size) fun k hk => ?_
    rw [heap_setCell_other _ ⟨gk, 2, none⟩ k _ fun e => by have e' : k = gk := e; rw [e'] at hk; exact h.far hk]
    exact ht.block k (h.lt k (h.sub k hk)) fun e => (h.farR k e).1 hk
  · rintro k (hk | hk)
    · have := h.lt k hk; have := ht.size; simp; omega
    · have := (own_lt ho hk).1; simpa using this
  · exact (ht.mono fun k hk => h.rowF k hk).set (.inl h.here) _
theorem KeepAt.ptr {q : Value} (h : KeepAt K w gk gl gd F FL S p vP z zs l) (e : p = q) : KeepAt K w gk gl gd F FL S q vP z zs l := e ▸ h
theorem KeepAt.slice (h : KeepAt K w gk gl gd F FL S p vP z zs l) : ∃ A c, vP = .slice A l.length c ∧ l.length ≤ c ∧ c ≤ maxLen ∧ Rd w A (cellsP l) := by
  obtain ⟨A, c, h1, h2, h3, h4, _⟩ := ownS_slice h.row
  exact ⟨A, c, h1, h2, h3, h4⟩
/-- where the row lies, if there is a pair -/
theorem KeepAt.rowAt (h : KeepAt K w gk gl gd F FL S p vP z zs l) (h0 : 0 < l.length) : ∃ gr cap, vP = .slice (some ⟨gr, 0, none⟩) l.length cap ∧ l.length ≤ cap ∧ cap ≤ maxLen ∧ gr ≠ gk ∧ F gr := by
  rcases h.row.2 with ⟨_, h1⟩ | ⟨gr, cap, cur, rfl, hb, hg, hnc, hcm, hcs, ht⟩
  · omega
  · exact ⟨gr, cap, rfl, hnc, hcm, (h.farR gr rfl).2, h.rowF gr rfl⟩
end

/-- a store in memory, as it stands between calls -/
def IsKeep (K : LogK) (w : World) (gk gd : Nat) (F : Nat → Prop) (s : KS K) : Prop :=
  ∃ gl FL vP, KeepAt K w gk gl gd F FL s.S (ptrG s.dead gl) vP (s.z : Nat) (sizeP s.ps : Nat) s.ps ∧ GoodP s.ps ∧ s.z ≤ 524288
/-- what a call leaves of it -/
def KeepTo (K : LogK) (gk gd : Nat) (F : Nat → Prop) (s : KS K) (w w' : World) : Prop := ∃ F' : Nat → Prop, IsKeep K w' gk gd F' s ∧ Touch F w w' ∧ ∀ k, F' k → F k ∨ w.heap.size ≤ k

end Go.Proofs.Ytaccmjgnggepjaa
