/-
  The walks of the eight statements on one kind of message each, out of the walk of 'kind'.
-/
import Derived.Test.YtafkcofocjellaaLawMessageKind
namespace Go.Proofs.Ytafkcofocjellaa
open Go.RowKit

theorem messageBatches_walk {E : MsgD → Int → List Int} {D : List Int → Int → Option MsgD} (HC : Hid (MCodec E D)) (C : MContracts E D) (a : Option Addr) (len cap : Nat) (w : World) (ha : MAsks w a len cap) :
    Calls Try.prog 7 #[.slice a len cap] w fun e w' => e = .returned (.bool true) ∧ Below w.heap.size w w' := by
  go_enter Try.func7, Try.ntmps7
  go_wp2_with fail
  refine (kind_walk HC C a len cap 1 _ ha).mono ?_
  rintro e w1 ⟨rfl, hb⟩
  go_wp2_with fail
  go_ret
  exact ⟨rfl, hb⟩
theorem messageGives_walk {E : MsgD → Int → List Int} {D : List Int → Int → Option MsgD} (HC : Hid (MCodec E D)) (C : MContracts E D) (a : Option Addr) (len cap : Nat) (w : World) (ha : MAsks w a len cap) :
    Calls Try.prog 8 #[.slice a len cap] w fun e w' => e = .returned (.bool true) ∧ Below w.heap.size w w' := by
  go_enter Try.func8, Try.ntmps8
  go_wp2_with fail
  refine (kind_walk HC C a len cap 3 _ ha).mono ?_
  rintro e w1 ⟨rfl, hb⟩
  go_wp2_with fail
  go_ret
  exact ⟨rfl, hb⟩
theorem messageTells_walk {E : MsgD → Int → List Int} {D : List Int → Int → Option MsgD} (HC : Hid (MCodec E D)) (C : MContracts E D) (a : Option Addr) (len cap : Nat) (w : World) (ha : MAsks w a len cap) :
    Calls Try.prog 9 #[.slice a len cap] w fun e w' => e = .returned (.bool true) ∧ Below w.heap.size w w' := by
  go_enter Try.func9, Try.ntmps9
  go_wp2_with fail
  refine (kind_walk HC C a len cap 2 _ ha).mono ?_
  rintro e w1 ⟨rfl, hb⟩
  go_wp2_with fail
  go_ret
  exact ⟨rfl, hb⟩
theorem messageVotes_walk {E : MsgD → Int → List Int} {D : List Int → Int → Option MsgD} (HC : Hid (MCodec E D)) (C : MContracts E D) (a : Option Addr) (len cap : Nat) (w : World) (ha : MAsks w a len cap) :
    Calls Try.prog 10 #[.slice a len cap] w fun e w' => e = .returned (.bool true) ∧ Below w.heap.size w w' := by
  go_enter Try.func10, Try.ntmps10
  go_wp2_with fail
  refine (kind_walk HC C a len cap 5 _ ha).mono ?_
  rintro e w1 ⟨rfl, hb⟩
  go_wp2_with fail
  go_ret
  exact ⟨rfl, hb⟩
theorem messageHeaders_walk {E : MsgD → Int → List Int} {D : List Int → Int → Option MsgD} (HC : Hid (MCodec E D)) (C : MContracts E D) (a : Option Addr) (len cap : Nat) (w : World) (ha : MAsks w a len cap) :
    Calls Try.prog 11 #[.slice a len cap] w fun e w' => e = .returned (.bool true) ∧ Below w.heap.size w w' := by
  go_enter Try.func11, Try.ntmps11
  go_wp2_with fail
  refine (kind_walk HC C a len cap 4 _ ha).mono ?_
  rintro e w1 ⟨rfl, hb⟩
  go_wp2_with fail
  go_ret
  exact ⟨rfl, hb⟩
theorem messageCerts_walk {E : MsgD → Int → List Int} {D : List Int → Int → Option MsgD} (HC : Hid (MCodec E D)) (C : MContracts E D) (a : Option Addr) (len cap : Nat) (w : World) (ha : MAsks w a len cap) :
    Calls Try.prog 12 #[.slice a len cap] w fun e w' => e = .returned (.bool true) ∧ Below w.heap.size w w' := by
  go_enter Try.func12, Try.ntmps12
  go_wp2_with fail
  refine (kind_walk HC C a len cap 6 _ ha).mono ?_
  rintro e w1 ⟨rfl, hb⟩
  go_wp2_with fail
  go_ret
  exact ⟨rfl, hb⟩
theorem messageWants_walk {E : MsgD → Int → List Int} {D : List Int → Int → Option MsgD} (HC : Hid (MCodec E D)) (C : MContracts E D) (a : Option Addr) (len cap : Nat) (w : World) (ha : MAsks w a len cap) :
    Calls Try.prog 13 #[.slice a len cap] w fun e w' => e = .returned (.bool true) ∧ Below w.heap.size w w' := by
  go_enter Try.func13, Try.ntmps13
  go_wp2_with fail
  refine (kind_walk HC C a len cap 7 _ ha).mono ?_
  rintro e w1 ⟨rfl, hb⟩
  go_wp2_with fail
  go_ret
  exact ⟨rfl, hb⟩
theorem messageSeeks_walk {E : MsgD → Int → List Int} {D : List Int → Int → Option MsgD} (HC : Hid (MCodec E D)) (C : MContracts E D) (a : Option Addr) (len cap : Nat) (w : World) (ha : MAsks w a len cap) :
    Calls Try.prog 14 #[.slice a len cap] w fun e w' => e = .returned (.bool true) ∧ Below w.heap.size w w' := by
  go_enter Try.func14, Try.ntmps14
  go_wp2_with fail
  refine (kind_walk HC C a len cap 8 _ ha).mono ?_
  rintro e w1 ⟨rfl, hb⟩
  go_wp2_with fail
  go_ret
  exact ⟨rfl, hb⟩

end Go.Proofs.Ytafkcofocjellaa
