/-
  Package message as landed answers as the document says, call by call.
-/
import Derived.Test.YtafkcofocjellaaMDecB
namespace Go.Proofs.Ytafkcofocjellaa
open Go.RowKit

theorem mdec_yes (A : Option Addr) (c l : Nat) (x : List Int) (m : MsgD) (n : Int) (w : World) (h : decM x n = some m) (hz : x.length = l) (hr : Rd w A (u8s x)) (hy : Byts x) (hc : l ≤ c) (hcm : c ≤ maxLen) (hl : l ≤ 1000000) :
    Calls Try.prog 23 #[.slice A l c, .int .i64 n] w fun e w' => ∃ a', e = .returned (.tuple #[msgV m a', .int .i64 0]) ∧ MsgIn w' m a' ∧ Below w.heap.size w w' := by
  refine (mdec_any A c l x n w hz hr hy hc hcm hl).mono ?_
  rintro e w' ⟨hb, hg⟩
  rw [h] at hg
  obtain ⟨a', he, hi⟩ := hg
  exact ⟨a', he, hi, hb⟩
theorem mdec_no (A : Option Addr) (c l : Nat) (x : List Int) (n : Int) (w : World) (h : decM x n = none) (hz : x.length = l) (hr : Rd w A (u8s x)) (hy : Byts x) (hc : l ≤ c) (hcm : c ≤ maxLen) (hl : l ≤ 1000000) :
    Calls Try.prog 23 #[.slice A l c, .int .i64 n] w (Tells w.heap.size w (.tuple #[msgV zeroM zeroA, .int .i64 1])) := by
  refine (mdec_any A c l x n w hz hr hy hc hcm hl).mono ?_
  rintro e w' ⟨hb, hg⟩
  rw [h] at hg
  exact ⟨hg, hb⟩
theorem okDec (x : List Int) (n : Int) (m : MsgD) (hx : Byts x) (h : decM x n = some m) : MsgOk m := by
  match x, hx, h with
  | k :: f :: t :: b, hx, h =>
    rw [decM_three, Option.bind_eq_some_iff] at h
    obtain ⟨m', hr, h⟩ := h
    by_cases hm : messB m' n = true
    · rw [if_pos hm] at h
      simp only [Option.some.injEq] at h
      subst h
      exact (rest_fine hx.head hx.tail.head hx.tail.tail.head hx.tail.tail.tail hr).ok
    · rw [if_neg hm] at h; cases h
theorem mcontracts : MContracts encM decM where
  check_yes := fun m a n w h hi ho hf _ => mcheck_is true m a n w h hi ho hf
  check_no := fun m a n w h hi ho hf _ => mcheck_is false m a n w h hi ho hf
  enc_yes := fun m a n w h hi ho hf _ => menc_yes m a n w h hi ho hf
  enc_no := fun m a n w h hi ho hf _ => menc_no m a n w h hi ho hf
  dec_yes := fun A c l x m n w h hz hr hy hc hm hl _ => mdec_yes A c l x m n w h hz hr hy hc hm hl
  dec_no := fun A c l x n w h hz hr hy hc hm hl _ => mdec_no A c l x n w h hz hr hy hc hm hl

end Go.Proofs.Ytafkcofocjellaa
