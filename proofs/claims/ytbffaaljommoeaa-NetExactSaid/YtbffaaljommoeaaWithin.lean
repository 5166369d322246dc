/-
  Numbers brought within bounds; contracts of calls that only read, as a statement whose order is open takes them.
-/
import Derived.Test.YtbffaaljommoeaaRows
import Derived.Test.YtbffaaljommoeaaMem
import Derived.WalkSpells
namespace Go.Proofs.Ytbffaaljommoeaa
open Go.RowKit

theorem within_val (i : Int) (n : Nat) (hn : 0 < n) (hn' : n ≤ 1000) : ∃ r : Nat, r < n ∧ wrap64 ((IntKind.u64.wrap i).tmod (n : Int)) = (r : Int) := by
  have h0 : 0 ≤ IntKind.u64.wrap i := by rw [IntKind.wrap_u64]; omega
  obtain ⟨m, hm⟩ := Int.eq_ofNat_of_zero_le h0
  rw [hm]
  refine ⟨m % n, Nat.mod_lt _ hn, ?_⟩
  have h1 : ((m : Int)).tmod (n : Int) = ((m % n : Nat) : Int) := by
    rw [Int.tmod_eq_emod_of_nonneg (by omega)]
    simp
  have h2 : m % n < n := Nat.mod_lt _ hn
  rw [h1, wrap64]
  omega
theorem within_is (i : Int) (n r : Nat) (w : World) (hv : wrap64 ((IntKind.u64.wrap i).tmod (n : Int)) = (r : Int)) (hn : 0 < n) (hn' : n ≤ 1000) : Calls Try.prog 8 #[.int .i64 i, .int .i64 n] w fun e w' => e = .returned (.int .i64 r) ∧ w = w' := by
  have HV := Lib.hid hv
  clear hv
  go_enter Try.func8, Try.ntmps8
  go_wp2
  rw [HV.out]
  go_ret
  exact ⟨rfl, rfl⟩
theorem within_any (i : Int) (n : Nat) (w : World) (hn : 0 < n) (hn' : n ≤ 1000) : Calls Try.prog 8 #[.int .i64 i, .int .i64 n] w fun e w' => (∃ r : Nat, r < n ∧ e = .returned (.int .i64 r)) ∧ w = w' := by
  obtain ⟨r, hr, hv⟩ := within_val i n hn hn'
  exact (within_is i n r w hv hn hn').mono fun e w' h => ⟨⟨r, hr, h.1⟩, h.2⟩

theorem quiet_leftK {P : Program} {f : FuncId} {args : Array Value} {w : World} {n : Nat} {v : Value}
    (h : Calls P f args (w.drewN n) fun e w' => e = .returned v ∧ w.drewN n = w') : Calls P f args (w.drewN n) fun e w'' => e = .returned v ∧ ∃ m, w'' = w.drewN m :=
  h.mono fun _ _ ⟨he, hm⟩ => ⟨he, n, hm.symm⟩
theorem quiet_more {P : Program} {f : FuncId} {args : Array Value} {w : World} {n : Nat} {v : Value}
    (h : Calls P f args (w.drewN n) fun e w' => e = .returned v ∧ ∃ d, w' = (w.drewN n).drewN d) : Calls P f args (w.drewN n) fun e w'' => e = .returned v ∧ ∃ m, w'' = w.drewN m :=
  h.mono fun _ _ ⟨he, d, hm⟩ => ⟨he, n + d, hm.trans (World.drewN_drewN _ _ _)⟩
end Go.Proofs.Ytbffaaljommoeaa
