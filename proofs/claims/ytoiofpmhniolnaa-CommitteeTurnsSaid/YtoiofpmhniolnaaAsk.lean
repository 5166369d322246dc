/-
  A slice of what is asked (nodes, a round, numbers) that came in: its cells at each index, and the lists that they show.
-/
import Derived.Test.YtoiofpmhniolnaaNumbers
import Derived.ProofKit
import Derived.OpenShut
import Derived.ChangeSlices
import Derived.Deep.Slices
import Derived.Deep.Fields
import Derived.ChangeOld
import Derived.Carry
namespace Go.Proofs.Ytoiofpmhniolnaa
open Go.RowKit Go.ChangeShapes Go.WideShapes Go.Deep

theorem lt_of_cell {w : World} {a : Addr} {v : Value} (h : w.cell? a = some v) : a.block < w.heap.size := by
  rcases Nat.lt_or_ge a.block w.heap.size with hl | hl
  · exact hl
  · have e : w.heap[a.block]? = none := by simp; omega
    simp [World.cell?, e] at h

/-- a slice whose first cells are known reads as a list -/
theorem rd_of {w : World} {a : Addr} {xs : List Value} (h : ∀ i v, xs[i]? = some v → w.cell? (a.add i) = some v) : Rd w (some a) xs := fun hx => by
  obtain ⟨x, l, rfl⟩ := List.exists_cons_of_ne_nil hx
  have h0 := h 0 x rfl
  have hsp : a.spot = none := by
    have := World.cell?_spot h0
    simpa [Addr.add] using this
  obtain ⟨b, off, spot⟩ := a
  subst hsp
  refine ⟨b, off, rfl, ?_, fun i v hv => ?_⟩
  · rw [Addr.add_lit] at h0; exact lt_of_cell h0
  · have := h i v hv
    rwa [Addr.add_lit] at this

section
variable {H : Type} {enc : TypeId × Value → H} {P : Program} {w : World} {base : Nat} {spare : Nat → Bool} {held : Bool} {t e : TypeId} {fuel : Nat} {v : Value} {x : DataW H × List MemPlace}
theorem open_nums {k : IntKind} (ht : P.underlying t = some (.slice e)) (he : P.underlying e = some (.int k)) (hc : P.cellsOf e = 1) (h : DataW.trod enc P w base spare held fuel t [v] = some x) :
    ∃ (A : Option Addr) (c : Nat) (zs : List Int), v = .slice A zs.length c ∧ zs.length ≤ c ∧ c ≤ maxLen ∧ Rd w A (zs.map (Value.int k)) ∧ ∀ n ∈ zs, (Lit.int k n).wf = true := by
  rcases open_ints ht he hc h with ⟨h0, _⟩ | ⟨a, len, cap, zs, h0, _, hl, hm, hz, _, hcell, hwf⟩
  · simp only [List.cons.injEq, and_true] at h0
    subst h0
    exact ⟨none, 0, [], rfl, by simp, by simp [maxLen], Rd.nil _ _, fun n hn => by simp at hn⟩
  · simp only [List.cons.injEq, and_true] at h0
    subst h0
    have hlen : len ≤ zs.length := by rw [hz]; split <;> omega
    have htl : (zs.take len).length = len := by rw [List.length_take]; omega
    refine ⟨some a, cap, zs.take len, by rw [htl], by omega, hm, rd_of fun i u hu => ?_, fun n hn => hwf n (List.mem_of_mem_take hn)⟩
    have hi : i < len := by
      rcases Nat.lt_or_ge i len with h' | h'
      · exact h'
      · rw [List.getElem?_eq_none (by rw [List.length_map, htl]; exact h')] at hu; cases hu
    rw [hcell i (by omega)]
    rw [← hu, List.getElem?_map, List.getElem?_take_of_lt hi, List.getElem?_eq_getElem (by omega), List.getD_eq_getElem?_getD, List.getElem?_eq_getElem (by omega)]
    rfl
end

/-- what is asked at one index: the parts, as lists -/
structure Asked where
  N : Int
  R : Int
  AL : Option Addr
  cL : Nat
  L : List Int

structure AskOk (w : World) (q : Asked) : Prop where
  wN : -9223372036854775808 ≤ q.N ∧ q.N ≤ 9223372036854775807
  wR : -9223372036854775808 ≤ q.R ∧ q.R ≤ 9223372036854775807
  hL : q.L.length ≤ q.cL
  mL : q.cL ≤ maxLen
  rL : Rd w q.AL (i64s q.L)
  sL : ∀ n ∈ q.L, -9223372036854775808 ≤ n ∧ n ≤ 9223372036854775807

def AskAt (w : World) (a : Option Addr) (i : Nat) : Prop :=
  ∃ (b off : Nat) (q : Asked), a = some ⟨b, off, none⟩ ∧ b < w.heap.size ∧ AskOk w q ∧
    w.cell? ⟨b, off + i * 3, none⟩ = some (.int .i64 q.N) ∧ w.cell? ⟨b, off + i * 3 + 1, none⟩ = some (.int .i64 q.R) ∧
    w.cell? ⟨b, off + i * 3 + 2, none⟩ = some (.slice q.AL q.L.length q.cL)

def Asks (w : World) (a : Option Addr) (len cap : Nat) : Prop := len ≤ cap ∧ cap ≤ maxLen ∧ ∀ i, i < len → AskAt w a i

theorem cells_ask : Try.prog.cellsOf 25 = 3 := by kernel_rfl
theorem cells_int : Try.prog.cellsOf 3 = 1 := by kernel_rfl
theorem cells_ints : Try.prog.cellsOf 23 = 1 := by kernel_rfl

theorem wf_i64 {n : Int} (h : (Lit.int .i64 n).wf = true) : -9223372036854775808 ≤ n ∧ n ≤ 9223372036854775807 := by
  have e1 : IntKind.i64.min = -9223372036854775808 := rfl
  have e2 : IntKind.i64.max = 9223372036854775807 := rfl
  simpa [Lit.wf, e1, e2] using h

theorem open_asks {H : Type} {enc : TypeId × Value → H} {w : World} {base : Nat} {spare : Nat → Bool} {held : Bool} {fuel : Nat} {a : Option Addr} {len cap : Nat} {z : DataW H × List MemPlace}
    (h : DataW.trod enc Try.prog w base spare held fuel 22 [.slice a len cap] = some z) : Asks w a len cap := by
  rcases open_slice Try.underlying22 h with ⟨hcs, _⟩ | ⟨ad, len', cap', m, n, D, Pl, hcs, _, hl, hm, hmm, hz, hi⟩
  · simp at hcs
    obtain ⟨rfl, rfl, rfl⟩ := hcs
    exact ⟨by omega, by unfold maxLen; omega, fun i hi => absurd hi (by omega)⟩
  · simp at hcs
    obtain ⟨rfl, rfl, rfl⟩ := hcs
    refine ⟨hl, hm, fun i hil => ?_⟩
    have him : i < m := by rw [hmm]; split <;> omega
    have hspot : ad.spot = none := by
      obtain ⟨cs, hc, _⟩ := hi 0 (by omega)
      rw [cells_ask] at hc
      obtain ⟨_, hcl, hat⟩ := World.cells?_some hc
      have h0 := hat 0 (by omega)
      rw [List.getElem?_eq_getElem (by omega)] at h0
      have := World.cell?_spot h0
      simpa [Addr.add] using this
    obtain ⟨cs, hc, ht⟩ := hi i him
    rw [cells_ask] at hc
    obtain ⟨_, hcl, hat⟩ := World.cells?_some hc
    obtain ⟨ys, n', _, hag, hlen, hyl, hf⟩ := DataW.trod_struct Try.underlying25 ht
    match cs, hcl with
    | [c0, c1, c2], _ =>
      match ys, hyl with
      | [y0, y1, y2], _ =>
        have f0 := hf 0 _ rfl
        have f1 := hf 1 _ rfl
        have f2 := hf 2 _ rfl
        simp [cells_int, cells_ints] at f0 f1 f2
        obtain ⟨r, e0, _, wr⟩ := DataW.trod_int Try.underlying3 f0
        obtain ⟨s, e1, _, ws⟩ := DataW.trod_int Try.underlying3 f1
        obtain ⟨AL, cL, L, e2, hL, mL, rL, sL⟩ := open_nums Try.underlying23 Try.underlying3 cells_int f2
        simp at e0 e1
        subst e0 e1 e2
        have a0 := hat 0 (by omega)
        have a1 := hat 1 (by omega)
        have a2 := hat 2 (by omega)
        rw [add_add] at a0 a1 a2
        obtain ⟨b, off, spot⟩ := ad
        subst hspot
        simp only [Addr.add_lit] at a0 a1 a2
        exact ⟨b, off, ⟨r, s, AL, cL, L⟩, rfl, lt_of_cell a0, ⟨wf_i64 wr, wf_i64 ws, hL, mL, rL, fun n hn => wf_i64 (sL n hn)⟩, a0, a1, a2⟩

theorem AskOk.below {w w' : World} {q : Asked} (h : AskOk w q) (hb : Below w.heap.size w w') : AskOk w' q :=
  ⟨h.wN, h.wR, h.hL, h.mL, h.rL.below hb, h.sL⟩
theorem AskAt.all {w : World} {a : Option Addr} {i : Nat} (h : AskAt w a i) : ∃ (b off : Nat) (q : Asked) (nL : Nat), a = some ⟨b, off, none⟩ ∧ q.L.length = nL ∧ ∀ wX, Below w.heap.size w wX → AskOk wX q ∧
    wX.cell? ⟨b, off + i * 3, none⟩ = some (.int .i64 q.N) ∧ wX.cell? ⟨b, off + i * 3 + 1, none⟩ = some (.int .i64 q.R) ∧
    wX.cell? ⟨b, off + i * 3 + 2, none⟩ = some (.slice q.AL nL q.cL) := by
  obtain ⟨b, off, q, rfl, hlt, ok, c0, c1, c2⟩ := h
  exact ⟨b, off, q, _, rfl, rfl, fun wX hb => ⟨ok.below hb, (hb.cell (p := ⟨b, _, none⟩) hlt).trans c0, (hb.cell (p := ⟨b, _, none⟩) hlt).trans c1, (hb.cell (p := ⟨b, _, none⟩) hlt).trans c2⟩⟩

theorem heavy_any (N R : Int) (A : Option Addr) (n c : Nat) (w : World) (b : Bool) (hb : decide (300 < n) = b) :
    Calls Try.prog 20 #[.agg #[.int .i64 N, .int .i64 R, .slice A n c]] w (Tells w.heap.size w (.bool b)) := by
  have HB := Lib.hid hb
  clear hb
  go_enter Try.func20, Try.ntmps20
  go_wp2
  go_ret
  exact ⟨ret_bool (by rw [← HB.out, decide_eq_decide]; omega), (Below.refl _ _).alloc (Nat.le_refl _) _⟩

/-- the cells of a new block of three -/
theorem box_cells {wr w1 : World} {x y z : Value} {T : TypeId} (h : w1 = wr.alloc (.cells #[x, y, z] T)) : ∀ wX, Below w1.heap.size w1 wX →
    wX.cell? ⟨wr.heap.size, 0, none⟩ = some x ∧ wX.cell? ⟨wr.heap.size, 1, none⟩ = some y ∧ wX.cell? ⟨wr.heap.size, 2, none⟩ = some z := by
  subst h
  intro wX hb
  have hs : wr.heap.size < (wr.alloc (.cells #[x, y, z] T)).heap.size := by simp
  refine ⟨(hb.cell (p := ⟨wr.heap.size, 0, none⟩) hs).trans ?_, (hb.cell (p := ⟨wr.heap.size, 1, none⟩) hs).trans ?_, (hb.cell (p := ⟨wr.heap.size, 2, none⟩) hs).trans ?_⟩
  all_goals
    rw [World.cell?_alloc_at _ _ _ _ rfl]
    rfl
theorem Below.up {B : Nat} {w w1 wX : World} (h : Below B w w1) (hB : B ≤ w1.heap.size) (hX : Below w1.heap.size w1 wX) : Below B w wX := h.trans (hX.mono hB)

end Go.Proofs.Ytoiofpmhniolnaa
