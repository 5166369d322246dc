/-
  Package header as landed answers as the document says, call by call.
-/
import Derived.Test.YtafkcofocjellaaHEnds
import Derived.Test.YtafkcofocjellaaHGet
import Derived.Test.YtafkcofocjellaaBBytes
import Derived.Test.YtafkcofocjellaaBParse
namespace Go.Proofs.Ytafkcofocjellaa
open Go.RowKit

theorem hparse_yes (A : Option Addr) (c n : Nat) (zs : List Int) (a r : Int) (B P : List Int) (w : World) (h : parseH zs = some (a, r, B, P)) (hz : zs.length = n) (hr : Rd w A (u8s zs)) (hy : Byts zs) (hc : n ≤ c) (hm : c ≤ maxLen) (hn : n ≤ 1000000) :
    Calls Try.prog 68 #[.slice A n c] w fun e w' => ∃ AB cB AP cP, e = .returned (.tuple #[.agg #[.int .i64 a, .int .i64 r, .slice AB B.length cB, .slice AP P.length cP], .int .i64 0]) ∧
      w'.ownsRow w.heap.size 3 1 (.slice AB B.length cB) B.length (i64s B) ∧ w'.ownsRow w.heap.size 3 1 (.slice AP P.length cP) P.length (i64s P) ∧ (∀ k, (Value.slice AB B.length cB).ownBlock = some k → (Value.slice AP P.length cP).ownBlock ≠ some k) ∧ Below w.heap.size w w' := by
  refine (hparse_any A c n zs w hz hr hy hc hm hn).mono ?_
  intro e w' k
  rw [h] at k
  obtain ⟨hb, AB, cB, AP, cP, he, h1, h2, h3⟩ := k
  exact ⟨AB, cB, AP, cP, he, h1, h2, h3, hb⟩
theorem hparse_no (A : Option Addr) (c n : Nat) (zs : List Int) (w : World) (h : parseH zs = none) (hz : zs.length = n) (hr : Rd w A (u8s zs)) (hy : Byts zs) (hc : n ≤ c) (hm : c ≤ maxLen) (hn : n ≤ 1000000) :
    Calls Try.prog 68 #[.slice A n c] w (Tells w.heap.size w (.tuple #[.agg #[.int .i64 0, .int .i64 0, .slice none 0 0, .slice none 0 0], .int .i64 1])) := by
  refine (hparse_any A c n zs w hz hr hy hc hm hn).mono ?_
  intro e w' k
  rw [h] at k
  exact ⟨k.2, k.1⟩

theorem hcontracts : HContracts where
  check_yes := fun a r AB cB nB B AP cP nP P n w h hi _ => hcheck_yes a r AB cB nB B AP cP nP P n w h hi
  check_no := fun a r AB cB nB B AP cP nP P n w h hi _ => hcheck_no a r AB cB nB B AP cP nP P n w h hi
  cert_yes := fun a r AB cB nB B AP cP nP P d AS cS nS S n w h hi hs hl _ => hcert_is true a r AB cB nB B AP cP nP P d AS cS nS S n w h hi hs hl
  cert_no := fun a r AB cB nB B AP cP nP P d AS cS nS S n w h hi hs hl _ => hcert_is false a r AB cB nB B AP cP nP P d AS cS nS S n w h hi hs hl
  bytes_yes := fun a r AB cB nB B AP cP nP P w h hi => hbytes_yes a r AB cB nB B AP cP nP P w h hi
  bytes_no := fun a r AB cB nB B AP cP nP P w h hi => hbytes_no a r AB cB nB B AP cP nP P w h hi
  parse_yes := hparse_yes
  parse_no := hparse_no

end Go.Proofs.Ytafkcofocjellaa
/-
  Package batch as landed answers as the document says, call by call.
-/
namespace Go.Proofs.Ytafkcofocjellaa
open Go.RowKit

theorem bparse_yes (A : Option Addr) (c n : Nat) (zs : List Int) (a N : Int) (L : List TxD) (w : World) (h : parseB zs = some (a, N, L)) (hz : zs.length = n) (hr : Rd w A (u8s zs)) (hy : Byts zs) (hc : n ≤ c) (hm : c ≤ maxLen) (hn : n ≤ 1000000) :
    Calls Try.prog 67 #[.slice A n c] w fun e w' =>
      ∃ A' c', e = .returned (.tuple #[.agg #[.int .i64 a, .int .i64 N, .slice A' L.length c'], .int .i64 0]) ∧ w'.ownsRow w.heap.size 97 4 (.slice A' L.length c') L.length (txs L) ∧ Below w.heap.size w w' := by
  refine (bparse_any A c n zs w hz hr hy hc hm (by omega)).mono ?_
  intro e w' k
  rw [h] at k
  obtain ⟨hb, A', c', he, ho⟩ := k
  exact ⟨A', c', he, ho, hb⟩
theorem bparse_no (A : Option Addr) (c n : Nat) (zs : List Int) (w : World) (h : parseB zs = none) (hz : zs.length = n) (hr : Rd w A (u8s zs)) (hy : Byts zs) (hc : n ≤ c) (hm : c ≤ maxLen) (hn : n ≤ 1000000) :
    Calls Try.prog 67 #[.slice A n c] w (Tells w.heap.size w (.tuple #[.agg #[.int .i64 0, .int .i64 0, .slice none 0 0], .int .i64 1])) := by
  refine (bparse_any A c n zs w hz hr hy hc hm (by omega)).mono ?_
  intro e w' k
  rw [h] at k
  exact ⟨k.2, k.1⟩

theorem bcontracts : BContracts where
  tx_yes := fun t w h => btx_yes t w h
  tx_no := fun t w h => btx_no t w h
  check_yes := fun a N A c n L w h hz hr _ _ => bcheck_yes a N A c n L w h hz hr
  check_no := fun a N A c n L w h hz hr _ _ => bcheck_no a N A c n L w h hz hr
  bytes_yes := fun a N A c n L w h hz hr hc _ => bbytes_yes a N A c n L w h hz hr hc
  bytes_no := fun a N A c n L w h hz hr _ _ => bbytes_no a N A c n L w h hz hr
  parse_yes := bparse_yes
  parse_no := bparse_no

end Go.Proofs.Ytafkcofocjellaa
