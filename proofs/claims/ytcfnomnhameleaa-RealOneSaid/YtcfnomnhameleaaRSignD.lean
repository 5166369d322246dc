/-
  What 'RealSigned' keeps while signature follows signature.
-/
import Derived.Test.YtcfnomnhameleaaRSignP
import Derived.Test.YtcfnomnhameleaaZJ
import Derived.Test.YtcfnomnhameleaaRTake
namespace Go.Proofs.Ytcfnomnhameleaa
open Go.RowKit

theorem zready_4 {P : Program} {md : Region.Mode} {Q : Exit → Act → World → Prop} {S : World → Prop} {o0 o1 o2 o3 o4 : Oper} {rest : List Oper} {fuel : Nat} {listed : Array Bool} {a : Act} {w : World}
    (hr : Region.ready md (o0 :: o1 :: o2 :: o3 :: o4 :: rest).toArray listed = [4])
    (h : ∀ K' : Act → World → Prop, Shut (∀ a w, S w → (S w → wpAnyH P md (o0 :: o1 :: o2 :: o3 :: o4 :: rest).toArray Q S fuel (listed.setIfInBounds 4 true) a w) → K' a w) → if Region.wanted o4 (yielded (o0 :: o1 :: o2 :: o3 :: o4 :: rest).toArray a.tmps) = true then Oper.wp P o4 a w K' Q else K' (a.put o4.dst undef) w) :
    wpAnyH P md (o0 :: o1 :: o2 :: o3 :: o4 :: rest).toArray Q S (fuel + 1) listed a w :=
  wpAnyH_ready hr (by simp) (AllReadyH.cons (i := 4) (o := o4) rfl h AllReadyH.nil)
/-- a row of numbers that stands whichever blocks of T turn -/
def RdFree (w : World) (T : Nat → Prop) (A : Option Addr) (l : List Int) : Prop := ∀ w', Touch T w w' → Rd w' A (i64s l)
theorem RdFree.step {w w' : World} {T T' : Nat → Prop} {A : Option Addr} {l : List Int} (h : RdFree w T A l) (ht : Touch T w w') (hT : ∀ k, T' k → T k ∨ w.heap.size ≤ k) : RdFree w' T' A l := fun w2 h2 => h w2 (ht.trans h2 hT)
theorem RdFree.here {w : World} {T : Nat → Prop} {A : Option Addr} {l : List Int} (h : RdFree w T A l) : Rd w A (i64s l) := h w (Touch.refl _ _)
structure SigSt (I : BookIs) (w1 : World) (gb gm : Nat) (m : MsgD) (a : MsgA) (F : Nat → Prop) (L : List (List Int)) (S : List (Int × Int)) (A : Option Addr) (l : List Int) (w : World) : Prop where
  bk : I w gb F L S
  bel : Below w1.heap.size w1 w
  low : ∀ k, F k → w1.heap.size ≤ k
  box : Box w gm (msgC m a)
  gmF : ¬ F gm
  free : MsgFree w F m a
  who : RdFree w F A l
section
variable {I : BookIs} {w1 w w' : World} {gb gm : Nat} {m : MsgD} {a : MsgA} {F F' : Nat → Prop} {L L2 : List (List Int)} {S S2 : List (Int × Int)} {A : Option Addr} {l : List Int}
theorem SigSt.below (K : BookK I) (h : SigSt I w1 gb gm m a F L S A l w) (hb : Below w.heap.size w w') : SigSt I w1 gb gm m a F L S A l w' :=
  ⟨K.kept h.bk hb.size fun k hk => hb.block k (K.lt h.bk k hk), h.bel.trans (hb.mono h.bel.size), h.low, h.box.below hb h.box.1, h.gmF, h.free.step (Touch.of hb) fun _ hk => .inl hk, h.who.step (Touch.of hb) fun _ hk => .inl hk⟩
theorem SigSt.to (h : SigSt I w1 gb gm m a F L S A l w) (hi : I w' gb F' L2 S2) (ht : Touch F w w') (hf : ∀ k, F' k → F k ∨ w.heap.size ≤ k) : SigSt I w1 gb gm m a F' L2 S2 A l w' :=
  ⟨hi, h.bel.trans (ht.below h.low h.bel.size), fun k hk => by
    rcases hf k hk with e | e
    · exact h.low k e
    · have := h.bel.size; omega, h.box.touch ht h.gmF, fun hk => by
    rcases hf gm hk with e | e
    · exact h.gmF e
    · have := h.box.1; omega, h.free.step ht hf, h.who.step ht hf⟩
/-- another row of numbers -/
theorem SigSt.turn {A' : Option Addr} {l' : List Int} (h : SigSt I w1 gb gm m a F L S A l w) (hw : RdFree w F A' l') : SigSt I w1 gb gm m a F L S A' l' w := ⟨h.bk, h.bel, h.low, h.box, h.gmF, h.free, hw⟩
end
/-- a new row of one number -/
theorem one_free {w : World} {F : Nat → Prop} {x : Int} (hF : ∀ k, F k → k < w.heap.size) : RdFree (w.alloc (.cells #[.int .i64 x] 3)) F (some ⟨w.heap.size, 0, none⟩) [x] := fun w' ht => (rd_new w [.int .i64 x] 3).kept ht.size fun a ha hl => ht.block _ hl fun hf => by
  cases ha
  have := hF _ hf
  simp at this
theorem rd_drop {w : World} {b o k n : Nat} {l : List Int} (h : Rd w (some ⟨b, o, none⟩) (i64s l)) (hz : l.length = n) (hk : k < n) {c : Nat} (hc : n ≤ c) : Rd w (some ⟨b, o + k, none⟩) (i64s (l.drop k)) := by
  have := h.cut (k := k) (c := c) (by rw [i64s_length]; omega)
  rw [if_neg (by omega)] at this
  simpa [i64s, List.map_drop, Addr.add_lit] using this
theorem form_cert8 {m : MsgD} (h : formB m 4 = true) (h6 : m.k = 6) : 3 ≤ m.cS.length := by
  unfold formB at h
  rw [if_neg (by omega), if_neg (by omega), if_neg (by omega), if_pos h6] at h
  simp only [certB, decide_eq_true_eq] at h
  have h3 := h.2.2.2.2
  have e : quoN 4 = 3 := by decide
  rw [e] at h3
  omega
/-- a message that may not be, or needs no signature -/
def idleB (m : MsgD) : Bool := !(messB m 4 && decide (m.k = 1 ∨ m.k = 3 ∨ m.k = 4 ∨ m.k = 6))
theorem idle_no {m : MsgD} (h : idleB m = false) : messB m 4 = true ∧ SigK m := by
  unfold idleB at h
  simp only [Bool.not_eq_false', Bool.and_eq_true, decide_eq_true_eq] at h
  exact h

end Go.Proofs.Ytcfnomnhameleaa
