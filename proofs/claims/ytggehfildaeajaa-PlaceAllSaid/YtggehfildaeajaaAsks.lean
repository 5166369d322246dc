/-
  A slice of what is asked (rounds, authors, parts of places and steps) that came in: its cells, said at each index. And what a quiet call leaves.
-/
import Derived.Test.YtggehfildaeajaaMoves
import Derived.ProofKit
import Derived.OpenShut
import Derived.Deep.Slices
import Derived.Deep.QuietTactic
import Derived.BigQuiet
import Derived.LoopTactic
namespace Go.Proofs.Ytggehfildaeajaa
open Go.RowKit Go.ChangeShapes Go.WideShapes Go.Deep Fl

section
variable {H : Type} {enc : TypeId × Value → H} {P : Program} {w : World} {base : Nat} {spare : Nat → Bool} {held : Bool}
theorem trod_float {t : TypeId} {k : FloatKind} {fuel : Nat} {cs : List Value} {x : DataW H × List MemPlace} (ht : P.underlying t = some (.float k)) (h : DataW.trod enc P w base spare held fuel t cs = some x) :
    ∃ n, cs = [.float k n] := by
  cases fuel with
  | zero => simp [DataW.trod] at h
  | succ n =>
    unfold DataW.trod at h
    rw [ht] at h
    split at h <;> simp_all
end

/-- what is asked at one index -/
def AskAt (w : World) (a : Option Addr) (i : Nat) : Prop :=
  ∃ (b off : Nat) (r s : Int) (x y u v : Nat), a = some ⟨b, off, none⟩ ∧ b < w.heap.size ∧ (Lit.int .i64 r).wf = true ∧ (Lit.int .i64 s).wf = true ∧
    w.cell? ⟨b, off + i * 6, none⟩ = some (.int .i64 r) ∧ w.cell? ⟨b, off + i * 6 + 1, none⟩ = some (.int .i64 s) ∧
    w.cell? ⟨b, off + i * 6 + 2, none⟩ = some (.float .f64 x) ∧ w.cell? ⟨b, off + i * 6 + 3, none⟩ = some (.float .f64 y) ∧
    w.cell? ⟨b, off + i * 6 + 4, none⟩ = some (.float .f64 u) ∧ w.cell? ⟨b, off + i * 6 + 5, none⟩ = some (.float .f64 v)

def Asks (w : World) (a : Option Addr) (len cap : Nat) : Prop := len ≤ cap ∧ cap ≤ maxLen ∧ ∀ i, i < len → AskAt w a i

theorem cells_ask : Try.prog.cellsOf 30 = 6 := by kernel_rfl
theorem cells_pair : Try.prog.cellsOf 28 = 2 := by kernel_rfl
theorem cells_float : Try.prog.cellsOf 27 = 1 := by kernel_rfl
theorem cells_int : Try.prog.cellsOf 3 = 1 := by kernel_rfl

theorem lt_of_cell {w : World} {a : Addr} {v : Value} (h : w.cell? a = some v) : a.block < w.heap.size := by
  rcases Nat.lt_or_ge a.block w.heap.size with hl | hl
  · exact hl
  · have e : w.heap[a.block]? = none := by simp; omega
    simp [World.cell?, e] at h

theorem open_pair {H : Type} {enc : TypeId × Value → H} {w : World} {base : Nat} {spare : Nat → Bool} {held : Bool} {fuel : Nat} {c d : Value} {z : DataW H × List MemPlace}
    (h : DataW.trod enc Try.prog w base spare held fuel 28 [c, d] = some z) : ∃ p q, c = .float .f64 p ∧ d = .float .f64 q := by
  obtain ⟨xs, m, _, _, _, hl, g⟩ := DataW.trod_array Try.underlying28 h
  match xs, hl with
  | [x0, x1], _ =>
    have g0 := g 0 (by omega)
    have g1 := g 1 (by omega)
    simp [cells_float] at g0 g1
    obtain ⟨p, e0⟩ := trod_float Try.underlying27 g0
    obtain ⟨q, e1⟩ := trod_float Try.underlying27 g1
    simp at e0 e1
    exact ⟨p, q, e0, e1⟩

theorem open_asks {H : Type} {enc : TypeId × Value → H} {w : World} {base : Nat} {spare : Nat → Bool} {held : Bool} {fuel : Nat} {a : Option Addr} {len cap : Nat} {z : DataW H × List MemPlace}
    (h : DataW.trod enc Try.prog w base spare held fuel 22 [.slice a len cap] = some z) : Asks w a len cap := by
  rcases open_slice Try.underlying22 h with ⟨hcs, _⟩ | ⟨ad, len', cap', m, n, D, Pl, hcs, _, hl, hm, hmm, _, hi⟩
  · simp at hcs
    obtain ⟨rfl, rfl, rfl⟩ := hcs
    exact ⟨by omega, by unfold maxLen; omega, fun i hi => absurd hi (by omega)⟩
  · simp at hcs
    obtain ⟨rfl, rfl, rfl⟩ := hcs
    refine ⟨hl, hm, fun i hil => ?_⟩
    have him : i < m := by rw [hmm]; split <;> omega
    have hspot : ad.spot = none := by
      obtain ⟨cs, hc, _⟩ := hi 0 (by omega)
      rw [cells_ask] at hc
      obtain ⟨_, hcl, hat⟩ := World.cells?_some hc
      have h0 := hat 0 (by omega)
      rw [List.getElem?_eq_getElem (by omega)] at h0
      have := World.cell?_spot h0
      simpa [Addr.add] using this
    obtain ⟨cs, hc, ht⟩ := hi i him
    rw [cells_ask] at hc
    obtain ⟨_, hcl, hat⟩ := World.cells?_some hc
    obtain ⟨ys, n', _, _, hlen, hyl, hf⟩ := DataW.trod_struct Try.underlying30 ht
    match cs, hcl with
    | [c0, c1, c2, c3, c4, c5], _ =>
      match ys, hyl with
      | [y0, y1, y2, y3], _ =>
        have f0 := hf 0 _ rfl
        have f1 := hf 1 _ rfl
        have f2 := hf 2 _ rfl
        have f3 := hf 3 _ rfl
        simp [cells_int, cells_pair] at f0 f1 f2 f3
        obtain ⟨r, e0, _, wr⟩ := DataW.trod_int Try.underlying3 f0
        obtain ⟨s, e1, _, ws⟩ := DataW.trod_int Try.underlying3 f1
        obtain ⟨x, y, e2, e3⟩ := open_pair f2
        obtain ⟨u, v, e4, e5⟩ := open_pair f3
        simp at e0 e1
        subst e0 e1 e2 e3 e4 e5
        have a0 := hat 0 (by omega)
        have a1 := hat 1 (by omega)
        have a2 := hat 2 (by omega)
        have a3 := hat 3 (by omega)
        have a4 := hat 4 (by omega)
        have a5 := hat 5 (by omega)
        rw [add_add] at a0 a1 a2 a3 a4 a5
        obtain ⟨b, off, spot⟩ := ad
        subst hspot
        simp only [add_plain] at a0 a1 a2 a3 a4 a5
        exact ⟨b, off, r, s, x, y, u, v, rfl, lt_of_cell a0, wr, ws, a0, a1, a2, a3, a4, a5⟩

theorem AskAt.below {w w' : World} {a : Option Addr} {i : Nat} (h : AskAt w a i) (hb : Below w.heap.size w w') : AskAt w' a i := by
  obtain ⟨b, off, r, s, x, y, u, v, rfl, hlt, wr, ws, c0, c1, c2, c3, c4, c5⟩ := h
  exact ⟨b, off, r, s, x, y, u, v, rfl, Nat.lt_of_lt_of_le hlt hb.size, wr, ws, (hb.cell (p := ⟨b, _, none⟩) hlt).trans c0, (hb.cell (p := ⟨b, _, none⟩) hlt).trans c1, (hb.cell (p := ⟨b, _, none⟩) hlt).trans c2,
    (hb.cell (p := ⟨b, _, none⟩) hlt).trans c3, (hb.cell (p := ⟨b, _, none⟩) hlt).trans c4, (hb.cell (p := ⟨b, _, none⟩) hlt).trans c5⟩

theorem wf_i64 {n : Int} (h : (Lit.int .i64 n).wf = true) : -9223372036854775808 ≤ n ∧ n ≤ 9223372036854775807 := by
  have e1 : IntKind.i64.min = -9223372036854775808 := rfl
  have e2 : IntKind.i64.max = 9223372036854775807 := rfl
  simpa [Lit.wf, e1, e2] using h

theorem below_drewN {B : Nat} {a w : World} (h : Below B a w) (n : Nat) : Below B a (w.drewN n) := ⟨h.os, h.tape, h.output, h.size, h.block⟩

theorem quiet_add_left {P : Program} {f : FuncId} {args : Array Value} {w : World} {a n : Nat} {v : Value}
    (h : Calls P f args (w.drewN (a + n)) fun e w' => e = .returned v ∧ w.drewN (a + n) = w') :
    Calls P f args (w.drewN (a + n)) fun e w'' => e = .returned v ∧ ∃ m, w'' = w.drewN (a + m) :=
  h.mono fun _ _ ⟨he, hm⟩ => ⟨he, n, hm.symm⟩
theorem quiet_left {P : Program} {f : FuncId} {args : Array Value} {w : World} {n : Nat} {v : Value}
    (h : Calls P f args (w.drewN n) fun e w' => e = .returned v ∧ w.drewN n = w') : Calls P f args (w.drewN n) fun e w'' => e = .returned v ∧ ∃ m, w'' = w.drewN m :=
  h.mono fun _ _ ⟨he, hm⟩ => ⟨he, n, hm.symm⟩

end Go.Proofs.Ytggehfildaeajaa
