/-
  The statements' own weight of a certificate.
-/
import Derived.Test.YtejkeccoialogaaHOks
import Derived.Test.YtejkeccoialogaaHCopy
import Derived.Test.YtejkeccoialogaaCalm
import Derived.BigRegion
namespace Go.Proofs.Ytejkeccoialogaa
open Go.RowKit

set_option maxHeartbeats 2000000 in
theorem rcw_any (a r : Int) (AB : Option Addr) (cB nB : Nat) (AP : Option Addr) (cP nP : Nat) (d : Int) (AS : Option Addr) (cS nS : Nat) (w : World) (hnB : nB ≤ 140737488351232) (hnP : nP ≤ 140737488351232) (hnS : nS ≤ 140737488351232) :
    Calls Try.prog 74 #[.agg #[.int .i64 a, .int .i64 r, .slice AB nB cB, .slice AP nP cP, .int .i64 d, .slice AS nS cS]] w (Tells w.heap.size w (.int .i64 (((1 + nB + nP + nS : Nat) : Int)))) := by
  obtain ⟨w1, hw1⟩ : ∃ w1, w1 = w.alloc (.cells #[.int .i64 a, .int .i64 r, .slice AB nB cB, .slice AP nP cP, .int .i64 d, .slice AS nS cS] 37) := ⟨_, rfl⟩
  have hb1 : Below w.heap.size w w1 := by rw [hw1]; exact (Below.refl _ _).alloc (Nat.le_refl _) _
  have HC := Lib.hid (cbox_new hw1)
  obtain ⟨c0, c1, c2, c3, c4, c5⟩ := HC.out _ (Below.refl _ _)
  have HW := Lib.hid hw1
  clear hw1
  go_enter Try.func74, Try.ntmps74
  go_wp2_with fail
  rw [← HW.out]
  first
    | (go_region_with (first
        | (go_at_call 97; refine (rhw_any a r AB cB nB AP cP nP _ hnB hnP).mono ?_; rintro e w2 ⟨rfl, hb2⟩; have hx2 : Below w1.heap.size w1 w2 := (by first | exact hb2 | exact ((Below.refl _ _).drew).trans hb2); obtain ⟨e0, e1, e2, e3, e4, e5⟩ := HC.out _ hx2)))
    | fail
  all_goals
    go_wp2_with fail
    go_ret
    exact ⟨ret_int (by rw [IntWalk.i64_in _ (by omega)]; omega), hb1.trans (hx2.mono hb1.size)⟩

end Go.Proofs.Ytejkeccoialogaa
