/-
  Lists of files, as they are handed in and out.
-/
import Derived.Test.YtecgagfpckaieaaDTorn
namespace Go.Proofs.Ytecgagfpckaieaa
open Go.RowKit

/-- a file of a list: its name, its bytes, the slice that shows them -/
structure FL where
  nm : ByteArray
  dat : List Int
  v : Value
def FL.cells (f : FL) : List Value := [.string f.nm, f.v]
def FL.pl (f : FL) : ByteArray × List Int := (f.nm, f.dat)
def cellsF (l : List FL) : List Value := l.flatMap FL.cells
theorem cellsF_length (l : List FL) : (cellsF l).length = l.length * 2 := by
  induction l with
  | nil => rfl
  | cons m ms ih => simp only [cellsF, List.flatMap_cons, List.length_append] at ih ⊢; rw [ih]; simp [FL.cells]; omega
theorem cellsF_append (a b : List FL) : cellsF (a ++ b) = cellsF a ++ cellsF b := by simp [cellsF]
theorem cellsF_at : ∀ {l : List FL} {i : Nat} {f : FL}, l[i]? = some f → (cellsF l)[i * 2]? = some (.string f.nm) ∧ (cellsF l)[i * 2 + 1]? = some f.v
  | [], _, _, h => by simp at h
  | x :: l, 0, f, h => by
    simp at h
    subst h
    exact ⟨rfl, rfl⟩
  | x :: l, i + 1, f, h => by
    have ih := cellsF_at (l := l) (i := i) (by simpa using h)
    rw [show (i + 1) * 2 = i * 2 + 1 + 1 by omega]
    exact ih
/-- its bytes read so -/
structure FIn (w : World) (f : FL) : Prop where
  rd : ∃ A c, f.v = .slice A f.dat.length c ∧ f.dat.length ≤ c ∧ c ≤ maxLen ∧ Rd w A (u8s f.dat)
  byt : Byts f.dat
theorem FIn.below {w w' : World} {f : FL} (h : FIn w f) (hb : Below w.heap.size w w') : FIn w' f := by
  obtain ⟨⟨A, c, h1, h2, h3, h4⟩, h5⟩ := h
  exact ⟨⟨A, c, h1, h2, h3, h4.below hb⟩, h5⟩
/-- new files, each in a row of its own -/
structure FsOwn (w : World) (B : Nat) (v : Value) (l : List FL) : Prop where
  row : w.ownsRow B 76 2 v l.length (cellsF l)
  els : ∀ f ∈ l, w.ownsRow B 5 1 f.v f.dat.length (u8s f.dat) ∧ Byts f.dat
  nd : (v.ownBlock.toList ++ l.flatMap fun f => f.v.ownBlock.toList).Nodup
theorem FsOwn.below {w w' : World} {B : Nat} {v : Value} {l : List FL} (h : FsOwn w B v l) (hb : Below w.heap.size w w') : FsOwn w' B v l :=
  ⟨ownS_below h.row hb, fun f hf => ⟨own_below (h.els f hf).1 hb, (h.els f hf).2⟩, h.nd⟩
theorem FsOwn.fin {w : World} {B : Nat} {v : Value} {l : List FL} (h : FsOwn w B v l) {f : FL} (hf : f ∈ l) : FIn w f := by
  obtain ⟨A, c, h1, h2, h3, h4⟩ := rd_own (h.els f hf).1
  exact ⟨⟨A, c, h1, h2, h3, h4⟩, (h.els f hf).2⟩

/-- what a list of files is handed back as -/
def FsTo (w : World) (fs : List (ByteArray × List Int)) (e : Ending) (w' : World) : Prop := ∃ v l, e = .returned v ∧ l.map FL.pl = fs ∧ FsOwn w' w.heap.size v l ∧ Below w.heap.size w w'

/-- the files of a crash -/
def crashL : List PF → List Int → List (ByteArray × List Int)
  | [], _ => []
  | f :: L, ps => if f.vis = f.dur then (f.nm, f.dur) :: crashL L ps else (f.nm, outl f.vis f.dur (ps.headD 0)) :: crashL L ps.tail
def dCrash (D : PD) (ps : List Int) : List (ByteArray × List Int) := crashL D.L ps

theorem info_afile : (Try.prog.info? 76).map (fun i => (i.zero, i.size, i.bytes)) = some (some (.agg #[.string ByteArray.empty, .slice none 0 0]), 2, 40) := by kernel_rfl

theorem FsOwn.snoc {w w4 w5 : World} {B : Nat} {A5 : Option Addr} {c5 n : Nat} {v : Value} {l : List FL} {f : FL} (h : FsOwn w4 B v l) (hf : w4.ownsRow w.heap.size 5 1 f.v f.dat.length (u8s f.dat)) (hb : Byts f.dat) (hB : B ≤ w.heap.size) (hn : n = l.length)
    (hlt : ∀ k, (v.ownBlock = some k ∨ ∃ x ∈ l, x.v.ownBlock = some k) → k < w.heap.size)
    (h5 : w5.ownsRow B 76 2 (.slice A5 (n + 1) c5) (n + 1) (cellsF l ++ f.cells)) (hg : w4.grownBy w5 v.ownBlock) (hloc : (Value.slice A5 (n + 1) c5).ownBlock = v.ownBlock ∨ (Value.slice A5 (n + 1) c5).ownBlock = some w4.heap.size) : FsOwn w5 B (.slice A5 (n + 1) c5) (l ++ [f]) := by
  have hkeep : ∀ x ∈ l, ∀ k, x.v.ownBlock = some k → w5.heap[k]? = w4.heap[k]? := fun x hx k hk => by
    refine hg.block k (own_lt (h.els x hx).1 hk).1 (fun e => ?_)
    have hnd := h.nd
    simp only [List.nodup_append, List.mem_flatMap, Option.mem_toList] at hnd
    exact hnd.2.2 k e.symm k ⟨x, hx, hk⟩ rfl
  have hfk : ∀ k, f.v.ownBlock = some k → w.heap.size ≤ k ∧ k < w4.heap.size := fun k hk => ⟨(own_lt hf hk).2, (own_lt hf hk).1⟩
  refine ⟨?_, ?_, ?_⟩
  · rw [List.length_append, List.length_singleton, ← hn, cellsF_append]
    simpa [cellsF] using h5
  · intro x hx
    rcases List.mem_append.1 hx with hx | hx
    · exact ⟨own_kept (h.els x hx).1 fun k hk _ => hkeep x hx k hk, (h.els x hx).2⟩
    · rw [List.mem_singleton] at hx
      subst hx
      refine ⟨own_more (own_kept hf fun k hk hl => hg.block k hl (fun e => ?_)) hB, hb⟩
      have := hlt k (.inl e.symm)
      have := (hfk k hk).1
      omega
  · have hnd := h.nd
    simp only [List.flatMap_append, List.flatMap_cons, List.flatMap_nil, List.append_nil, List.nodup_append, List.mem_append, List.mem_flatMap, Option.mem_toList] at hnd ⊢
    refine ⟨by cases (Value.slice A5 (n + 1) c5).ownBlock <;> simp, ⟨hnd.2.1, by cases f.v.ownBlock <;> simp, ?_⟩, ?_⟩
    · rintro a ⟨x, hx, hk⟩ b hb' rfl
      have := hlt a (.inr ⟨x, hx, hk⟩)
      have := (hfk a hb').1
      omega
    · rintro a ha b (⟨x, hx, hk⟩ | hb') rfl
      · rcases hloc with e | e
        · exact hnd.2.2 a (by rw [← e]; exact ha) a ⟨x, hx, hk⟩ rfl
        · rw [e] at ha
          cases ha
          have := (own_lt (h.els x hx).1 hk).1
          omega
      · rcases hloc with e | e
        · have := hlt a (.inl (by rw [← e]; exact ha))
          have := (hfk a hb').1
          omega
        · rw [e] at ha
          cases ha
          have := (hfk _ hb').2
          omega

/-- append of an element of several cells, and where the row lies then -/
theorem run_app_elem {P : Program} (w : World) (t ty : TypeId) (B : Nat) (e : TypeId) (z : Value) (sz bytes : Nat) (ht : P.underlying t = some (.slice e)) (hinfo : (P.info? e).map (fun i => (i.zero, i.size, i.bytes)) = some (some z, sz, bytes)) (hzs : z.cells.size = sz) (hsz : 0 < sz) (hby : bytes ≤ 512)
    (v : Value) (n : Nat) (xs : List Value) (hown : w.ownsRow B e sz v n xs) (g : Nat) (us : List Value) (hu : us.length = sz) (hg : w.heap[g]? = some (.cells us.toArray e (0, 0))) (h1 : ∀ u ∈ us, u.oneCell' = true) (hn : n + 1 ≤ 1000000) (hB : B ≤ w.heap.size) :
    ∃ A' c' w', (Builtin.append_ #[t, t] ty #[v, .slice (some ⟨g, 0, none⟩) 1 1]).run P w = .ok (.slice A' (n + 1) c') w' ∧ w'.ownsRow B e sz (.slice A' (n + 1) c') (n + 1) (xs ++ us) ∧ w.grownBy w' v.ownBlock ∧ ((Value.slice A' (n + 1) c').ownBlock = v.ownBlock ∨ (Value.slice A' (n + 1) c').ownBlock = some w.heap.size) := by
  obtain ⟨i, hi, hz, hsize, hbytes⟩ := info_parts hinfo
  obtain ⟨v', w', hrun, h2, h3, _, h5⟩ := run_append_own_at (P := P) w B t ty e i z sz bytes ht hi hz hsize hbytes hzs hsz v n xs hown ⟨g, 0, none⟩ 1 1 us (by omega) (fun j y hj => by
    rw [Addr.add_lit, cell_of_row w g _ _ _ _ hg]
    simpa using hj) h1 (by unfold maxLen; omega) (by have := Nat.mul_le_mul hn hby; omega) hB
  obtain ⟨A', c', rfl, _⟩ := ownS_slice h2
  exact ⟨A', c', w', hrun, h2, h3, h5⟩

end Go.Proofs.Ytecgagfpckaieaa
