/-
  Transactions' weight, and answers written over.
-/
import Derived.Test.YtkkamcdilpcehaaTxWalks
import Derived.IntWalk
namespace Go.Proofs.Ytkkamcdilpcehaa
open Go.RowKit

/-- the bytes of the first j transactions -/
def totX (L : List TxD) (j : Nat) : Nat := ((L.take j).map fun t => t.k.size + t.v.size).sum
theorem totX_zero (L : List TxD) : totX L 0 = 0 := by simp [totX]
theorem totX_step {L : List TxD} {j : Nat} {t : TxD} (h : L[j]? = some t) : totX L (j + 1) = totX L j + (t.k.size + t.v.size) := by
  unfold totX; rw [take_next h]; simp

def WeighsX (n : Nat) (L : List TxD) (w : World) (en : Ending) (w' : World) : Prop := ∃ S d : Nat, en = .returned (.int .i64 S) ∧ w' = w.drewN d ∧ (S ≤ 100000 → n + totX L n = S)

set_option maxRecDepth 100000 in
set_option maxHeartbeats 800000 in
theorem txWeight_any (A : Option Addr) (c n : Nat) (L : List TxD) (w : World) (hz : L.length = n) (hr : Rd w A (txs L)) (hs : ∀ t ∈ L, t.k.size ≤ 140737488351232 ∧ t.v.size ≤ 140737488351232) (hc : n ≤ c) (hm : c ≤ maxLen) :
    Calls Try.prog 25 #[.slice A n c] w (WeighsX n L w) := by
  unfold maxLen at hm
  have HZ := Lib.hid hz
  have HS := Lib.hid hs
  clear hz hs
  go_enter Try.func25, Try.ntmps25
  go_wp2_with fail
  go_loopw [3, 4] (fun x i wr => ∃ j S d : Nat, i = .int .i64 j ∧ x = .int .i64 S ∧ j ≤ n ∧ S ≤ 9223372036854775807 ∧ Hid (S = n + totX L j) ∧ wr = w.drewN d) (fun _ i _ => n - (intOf i).toNat)
  case atStart => exact ⟨0, n, 0, rfl, rfl, by omega, by omega, by show n = n + totX L 0; rw [totX_zero]; rfl, rfl⟩
  case round =>
    obtain ⟨j, S, d, rfl, rfl, hj, hS, HSe, rfl⟩ := hrel
    by_cases hlt : j < n
    · have i0 : (0 : Int) ≤ (j : Int) := by omega
      have i1 : (j : Int) < (n : Int) := by omega
      obtain ⟨b, off, ⟨ts, tq, tk, tv⟩, rfl, hbl, hat, c0, c1, c2, c3⟩ := hr.tx (i := j) (by rw [HZ.out]; exact hlt)
      obtain ⟨z1, z2⟩ := HS.out _ (List.mem_of_getElem? hat)
      have hst := totX_step hat
      simp only at c2 c3 z1 z2 hst
      have HST := Lib.hid hst
      clear c0 c1 hat hst
      by_cases hlt20 : S < 1048576
      · have i2 : (S : Int) < 1048576 := by omega
        have s1 : IntKind.i64.wrap ((S : Int) + (tk.size : Int)) = (S : Int) + (tk.size : Int) := IntWalk.i64_in _ (by omega)
        have s2 : IntKind.i64.wrap ((S : Int) + (tk.size : Int) + (tv.size : Int)) = (S : Int) + (tk.size : Int) + (tv.size : Int) := IntWalk.i64_in _ (by omega)
        go_wp2_with fail
        go_quiet (fail)
        go_wp2_with fail
        go_roundw
        case rel => exact ⟨j + 1, S + tk.size + tv.size, _, by go_num, by go_num, by omega, by omega, by show S + tk.size + tv.size = n + totX L (j + 1); have h1 := HSe.out; have h2 := HST.out; omega, rfl⟩
        case measure => simp [intOf]; omega
      · have i2 : ¬ ((S : Int) < 1048576) := by omega
        go_wp2_with fail
        go_ret
        exact ⟨S, d, rfl, rfl, fun h => absurd h (by omega)⟩
    · obtain rfl : j = n := by omega
      have i1 : ¬ ((j : Int) < (j : Int)) := by omega
      go_wp2_with fail
      go_ret
      exact ⟨S, d, rfl, rfl, fun _ => HSe.out.symm⟩

set_option maxHeartbeats 400000 in
theorem spoilTxs_any (B : Nat) (v : Value) (n : Nat) (xs0 : List Value) (w : World) (hown : w.ownsRow B 34 4 v n xs0) (hB : B ≤ w.heap.size) (hn : n ≤ 1073741824) :
    Calls Try.prog 24 #[v] w fun e w' => e = .returned (.tuple #[]) ∧ Below B w w' := by
  obtain ⟨A, c, rfl, hc, hm, _, _, _⟩ := ownS_slice hown
  unfold maxLen at hm
  go_enter Try.func24, Try.ntmps24
  go_wp2
  go_loopw [2] (fun i wr => ∃ (k : Nat) (xs : List Value), i = .int .i64 k ∧ k ≤ n ∧ wr.ownsRow B 34 4 (.slice A n c) n xs ∧ Below B w wr) (fun i _ => n - (intOf i).toNat)
  case atStart => exact ⟨0, xs0, rfl, by omega, hown, Below.refl _ _⟩
  case round =>
    obtain ⟨k, xs, rfl, hk, ho, hb⟩ := hrel
    clear hown
    by_cases hlt : k < n
    · obtain ⟨g, cap, hv, hBg, hglt⟩ := ho.form (by omega)
      simp only [Value.slice.injEq, true_and] at hv
      obtain ⟨rfl, rfl⟩ := hv
      have hl := ho.1
      have key : ∀ j, j < n * 4 → ∃ u, wr.cell? ⟨g, j, none⟩ = some u := fun j hj => ⟨xs[j], (ho.cellAt j hj).trans (by simp)⟩
      obtain ⟨u0, c0⟩ := key (k * 4) (by omega)
      obtain ⟨u1, c1⟩ := key (k * 4 + 1) (by omega)
      obtain ⟨u2, c2⟩ := key (k * 4 + 2) (by omega)
      obtain ⟨u3, c3⟩ := key (k * 4 + 3) (by omega)
      have f0 := ho.frozenAt (k * 4)
      have f1 := ho.frozenAt (k * 4 + 1)
      have f2 := ho.frozenAt (k * 4 + 2)
      have f3 := ho.frozenAt (k * 4 + 3)
      clear key hl
      have i0 : (0 : Int) ≤ (k : Int) := by omega
      have i1 : (k : Int) < (n : Int) := by omega
      go_wp2
      go_roundw
      case rel => exact ⟨k + 1, _, by go_num, by omega, ((((ho.stored _ _).1.stored _ _).1.stored _ _).1.stored _ _).1, (((hb.setCell hBg _).setCell hBg _).setCell hBg _).setCell hBg _⟩
      case measure => simp [intOf]; omega
    · have i1 : ¬ ((k : Int) < (n : Int)) := by omega
      obtain rfl : k = n := by omega
      go_wp2_with (at_builtin; refine wpList_app_elem _ rfl _ _ 24 rfl B 34 _ 4 48 Try.underlying24 info_tx rfl (by decide) (by decide) _ k _ rfl (ho.alloc _) wr.heap.size (TxD.cells ⟨0, 0, ⟨#[]⟩, ⟨#[]⟩⟩) rfl rfl (cells_new _ _ _) (cells_one _) (by omega) (by have := hb.size; simp; omega) ?_)
      intro v' w1 hown1 hb1
      go_wp2
      go_end0
      exact ⟨rfl, (hb.alloc (by have := hb.size; omega) _).trans hb1⟩

end Go.Proofs.Ytkkamcdilpcehaa
