/-
  Package batch as landed answers as the document says, call by call.
-/
import Derived.Test.YtkkamcdilpcehaaBBytes
import Derived.Test.YtkkamcdilpcehaaBParse
namespace Go.Proofs.Ytkkamcdilpcehaa
open Go.RowKit

theorem bparse_yes (A : Option Addr) (c n : Nat) (zs : List Int) (a N : Int) (L : List TxD) (w : World) (h : parseB zs = some (a, N, L)) (hz : zs.length = n) (hr : Rd w A (u8s zs)) (hy : Byts zs) (hc : n ≤ c) (hm : c ≤ maxLen) (hn : n ≤ 1000000) :
    Calls Try.prog 22 #[.slice A n c] w fun e w' =>
      ∃ A' c', e = .returned (.tuple #[.agg #[.int .i64 a, .int .i64 N, .slice A' L.length c'], .int .i64 0]) ∧ w'.ownsRow w.heap.size 34 4 (.slice A' L.length c') L.length (txs L) ∧ Below w.heap.size w w' := by
  refine (bparse_any A c n zs w hz hr hy hc hm (by omega)).mono ?_
  intro e w' k
  rw [h] at k
  obtain ⟨hb, A', c', he, ho⟩ := k
  exact ⟨A', c', he, ho, hb⟩
theorem bparse_no (A : Option Addr) (c n : Nat) (zs : List Int) (w : World) (h : parseB zs = none) (hz : zs.length = n) (hr : Rd w A (u8s zs)) (hy : Byts zs) (hc : n ≤ c) (hm : c ≤ maxLen) (hn : n ≤ 1000000) :
    Calls Try.prog 22 #[.slice A n c] w (Tells w.heap.size w (.tuple #[.agg #[.int .i64 0, .int .i64 0, .slice none 0 0], .int .i64 1])) := by
  refine (bparse_any A c n zs w hz hr hy hc hm (by omega)).mono ?_
  intro e w' k
  rw [h] at k
  exact ⟨k.2, k.1⟩

theorem bcontracts : BContracts where
  tx_yes := fun t w h => btx_yes t w h
  tx_no := fun t w h => btx_no t w h
  check_yes := fun a N A c n L w h hz hr _ _ => bcheck_yes a N A c n L w h hz hr
  check_no := fun a N A c n L w h hz hr _ _ => bcheck_no a N A c n L w h hz hr
  bytes_yes := fun a N A c n L w h hz hr hc _ => bbytes_yes a N A c n L w h hz hr hc
  bytes_no := fun a N A c n L w h hz hr _ _ => bbytes_no a N A c n L w h hz hr
  parse_yes := bparse_yes
  parse_no := bparse_no

end Go.Proofs.Ytkkamcdilpcehaa
