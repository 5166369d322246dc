/-
  Is a message real, by a book? The page's own walk, whole.
-/
import Derived.Test.YtcfnomnhameleaaRReal
import Derived.Test.YtcfnomnhameleaaZE
namespace Go.Proofs.Ytcfnomnhameleaa
open Go.RowKit

theorem rtake_0 {P : Program} {md : Region.Mode} {Q : Exit → Act → World → Prop} {S : World → Prop} {o0 : Oper} {rest : List Oper} {v : Value} {fuel : Nat} {listed : Array Bool} {a : Act} {w : World}
    (hs : Region.noSelect (o0 :: rest).toArray = true) (hf : Region.free md (o0 :: rest).toArray listed 0 = true) (hr : (Region.ready md (o0 :: rest).toArray listed).contains 0 = true)
    (hQ : ∀ c a w, Q (.panic c) (a.put o0.dst v) w → Q (.panic c) a w) (hy : YieldsIf P (o0 :: rest).toArray S o0 v a) (hS : S w)
    (h : wpAnyH P md (o0 :: rest).toArray Q S fuel (listed.setIfInBounds 0 true) (a.put o0.dst v) w) : wpAnyH P md (o0 :: rest).toArray Q S (fuel + 1) listed a w :=
  wpAnyH_take (i := 0) (oi := o0) rfl hs hf hr hQ hy hS h
theorem rtake_1 {P : Program} {md : Region.Mode} {Q : Exit → Act → World → Prop} {S : World → Prop} {o0 o1 : Oper} {rest : List Oper} {v : Value} {fuel : Nat} {listed : Array Bool} {a : Act} {w : World}
    (hs : Region.noSelect (o0 :: o1 :: rest).toArray = true) (hf : Region.free md (o0 :: o1 :: rest).toArray listed 1 = true) (hr : (Region.ready md (o0 :: o1 :: rest).toArray listed).contains 1 = true)
    (hQ : ∀ c a w, Q (.panic c) (a.put o1.dst v) w → Q (.panic c) a w) (hy : YieldsIf P (o0 :: o1 :: rest).toArray S o1 v a) (hS : S w)
    (h : wpAnyH P md (o0 :: o1 :: rest).toArray Q S fuel (listed.setIfInBounds 1 true) (a.put o1.dst v) w) : wpAnyH P md (o0 :: o1 :: rest).toArray Q S (fuel + 1) listed a w :=
  wpAnyH_take (i := 1) (oi := o1) rfl hs hf hr hQ hy hS h
theorem rtake_2 {P : Program} {md : Region.Mode} {Q : Exit → Act → World → Prop} {S : World → Prop} {o0 o1 o2 : Oper} {rest : List Oper} {v : Value} {fuel : Nat} {listed : Array Bool} {a : Act} {w : World}
    (hs : Region.noSelect (o0 :: o1 :: o2 :: rest).toArray = true) (hf : Region.free md (o0 :: o1 :: o2 :: rest).toArray listed 2 = true) (hr : (Region.ready md (o0 :: o1 :: o2 :: rest).toArray listed).contains 2 = true)
    (hQ : ∀ c a w, Q (.panic c) (a.put o2.dst v) w → Q (.panic c) a w) (hy : YieldsIf P (o0 :: o1 :: o2 :: rest).toArray S o2 v a) (hS : S w)
    (h : wpAnyH P md (o0 :: o1 :: o2 :: rest).toArray Q S fuel (listed.setIfInBounds 2 true) (a.put o2.dst v) w) : wpAnyH P md (o0 :: o1 :: o2 :: rest).toArray Q S (fuel + 1) listed a w :=
  wpAnyH_take (i := 2) (oi := o2) rfl hs hf hr hQ hy hS h
theorem rtake_3 {P : Program} {md : Region.Mode} {Q : Exit → Act → World → Prop} {S : World → Prop} {o0 o1 o2 o3 : Oper} {rest : List Oper} {v : Value} {fuel : Nat} {listed : Array Bool} {a : Act} {w : World}
    (hs : Region.noSelect (o0 :: o1 :: o2 :: o3 :: rest).toArray = true) (hf : Region.free md (o0 :: o1 :: o2 :: o3 :: rest).toArray listed 3 = true) (hr : (Region.ready md (o0 :: o1 :: o2 :: o3 :: rest).toArray listed).contains 3 = true)
    (hQ : ∀ c a w, Q (.panic c) (a.put o3.dst v) w → Q (.panic c) a w) (hy : YieldsIf P (o0 :: o1 :: o2 :: o3 :: rest).toArray S o3 v a) (hS : S w)
    (h : wpAnyH P md (o0 :: o1 :: o2 :: o3 :: rest).toArray Q S fuel (listed.setIfInBounds 3 true) (a.put o3.dst v) w) : wpAnyH P md (o0 :: o1 :: o2 :: o3 :: rest).toArray Q S (fuel + 1) listed a w :=
  wpAnyH_take (i := 3) (oi := o3) rfl hs hf hr hQ hy hS h
theorem rready_3 {P : Program} {md : Region.Mode} {Q : Exit → Act → World → Prop} {S : World → Prop} {o0 o1 o2 o3 : Oper} {rest : List Oper} {fuel : Nat} {listed : Array Bool} {a : Act} {w : World}
    (hr : Region.ready md (o0 :: o1 :: o2 :: o3 :: rest).toArray listed = [3])
    (h : ∀ K' : Act → World → Prop, Shut (∀ a w, S w → (S w → wpAnyH P md (o0 :: o1 :: o2 :: o3 :: rest).toArray Q S fuel (listed.setIfInBounds 3 true) a w) → K' a w) → if Region.wanted o3 (yielded (o0 :: o1 :: o2 :: o3 :: rest).toArray a.tmps) = true then Oper.wp P o3 a w K' Q else K' (a.put o3.dst undef) w) :
    wpAnyH P md (o0 :: o1 :: o2 :: o3 :: rest).toArray Q S (fuel + 1) listed a w :=
  wpAnyH_ready hr (by simp) (AllReadyH.cons (i := 3) (o := o3) rfl h AllReadyH.nil)
theorem rtake_4 {P : Program} {md : Region.Mode} {Q : Exit → Act → World → Prop} {S : World → Prop} {o0 o1 o2 o3 o4 : Oper} {rest : List Oper} {v : Value} {fuel : Nat} {listed : Array Bool} {a : Act} {w : World}
    (hs : Region.noSelect (o0 :: o1 :: o2 :: o3 :: o4 :: rest).toArray = true) (hf : Region.free md (o0 :: o1 :: o2 :: o3 :: o4 :: rest).toArray listed 4 = true) (hr : (Region.ready md (o0 :: o1 :: o2 :: o3 :: o4 :: rest).toArray listed).contains 4 = true)
    (hQ : ∀ c a w, Q (.panic c) (a.put o4.dst v) w → Q (.panic c) a w) (hy : YieldsIf P (o0 :: o1 :: o2 :: o3 :: o4 :: rest).toArray S o4 v a) (hS : S w)
    (h : wpAnyH P md (o0 :: o1 :: o2 :: o3 :: o4 :: rest).toArray Q S fuel (listed.setIfInBounds 4 true) (a.put o4.dst v) w) : wpAnyH P md (o0 :: o1 :: o2 :: o3 :: o4 :: rest).toArray Q S (fuel + 1) listed a w :=
  wpAnyH_take (i := 4) (oi := o4) rfl hs hf hr hQ hy hS h
theorem rready_4 {P : Program} {md : Region.Mode} {Q : Exit → Act → World → Prop} {S : World → Prop} {o0 o1 o2 o3 o4 : Oper} {rest : List Oper} {fuel : Nat} {listed : Array Bool} {a : Act} {w : World}
    (hr : Region.ready md (o0 :: o1 :: o2 :: o3 :: o4 :: rest).toArray listed = [4])
    (h : ∀ K' : Act → World → Prop, Shut (∀ a w, S w → (S w → wpAnyH P md (o0 :: o1 :: o2 :: o3 :: o4 :: rest).toArray Q S fuel (listed.setIfInBounds 4 true) a w) → K' a w) → if Region.wanted o4 (yielded (o0 :: o1 :: o2 :: o3 :: o4 :: rest).toArray a.tmps) = true then Oper.wp P o4 a w K' Q else K' (a.put o4.dst undef) w) :
    wpAnyH P md (o0 :: o1 :: o2 :: o3 :: o4 :: rest).toArray Q S (fuel + 1) listed a w :=
  wpAnyH_ready hr (by simp) (AllReadyH.cons (i := 4) (o := o4) rfl h AllReadyH.nil)
theorem rtake_5 {P : Program} {md : Region.Mode} {Q : Exit → Act → World → Prop} {S : World → Prop} {o0 o1 o2 o3 o4 o5 : Oper} {rest : List Oper} {v : Value} {fuel : Nat} {listed : Array Bool} {a : Act} {w : World}
    (hs : Region.noSelect (o0 :: o1 :: o2 :: o3 :: o4 :: o5 :: rest).toArray = true) (hf : Region.free md (o0 :: o1 :: o2 :: o3 :: o4 :: o5 :: rest).toArray listed 5 = true) (hr : (Region.ready md (o0 :: o1 :: o2 :: o3 :: o4 :: o5 :: rest).toArray listed).contains 5 = true)
    (hQ : ∀ c a w, Q (.panic c) (a.put o5.dst v) w → Q (.panic c) a w) (hy : YieldsIf P (o0 :: o1 :: o2 :: o3 :: o4 :: o5 :: rest).toArray S o5 v a) (hS : S w)
    (h : wpAnyH P md (o0 :: o1 :: o2 :: o3 :: o4 :: o5 :: rest).toArray Q S fuel (listed.setIfInBounds 5 true) (a.put o5.dst v) w) : wpAnyH P md (o0 :: o1 :: o2 :: o3 :: o4 :: o5 :: rest).toArray Q S (fuel + 1) listed a w :=
  wpAnyH_take (i := 5) (oi := o5) rfl hs hf hr hQ hy hS h
theorem rready_5 {P : Program} {md : Region.Mode} {Q : Exit → Act → World → Prop} {S : World → Prop} {o0 o1 o2 o3 o4 o5 : Oper} {rest : List Oper} {fuel : Nat} {listed : Array Bool} {a : Act} {w : World}
    (hr : Region.ready md (o0 :: o1 :: o2 :: o3 :: o4 :: o5 :: rest).toArray listed = [5])
    (h : ∀ K' : Act → World → Prop, Shut (∀ a w, S w → (S w → wpAnyH P md (o0 :: o1 :: o2 :: o3 :: o4 :: o5 :: rest).toArray Q S fuel (listed.setIfInBounds 5 true) a w) → K' a w) → if Region.wanted o5 (yielded (o0 :: o1 :: o2 :: o3 :: o4 :: o5 :: rest).toArray a.tmps) = true then Oper.wp P o5 a w K' Q else K' (a.put o5.dst undef) w) :
    wpAnyH P md (o0 :: o1 :: o2 :: o3 :: o4 :: o5 :: rest).toArray Q S (fuel + 1) listed a w :=
  wpAnyH_ready hr (by simp) (AllReadyH.cons (i := 5) (o := o5) rfl h AllReadyH.nil)
theorem rtake_6 {P : Program} {md : Region.Mode} {Q : Exit → Act → World → Prop} {S : World → Prop} {o0 o1 o2 o3 o4 o5 o6 : Oper} {rest : List Oper} {v : Value} {fuel : Nat} {listed : Array Bool} {a : Act} {w : World}
    (hs : Region.noSelect (o0 :: o1 :: o2 :: o3 :: o4 :: o5 :: o6 :: rest).toArray = true) (hf : Region.free md (o0 :: o1 :: o2 :: o3 :: o4 :: o5 :: o6 :: rest).toArray listed 6 = true) (hr : (Region.ready md (o0 :: o1 :: o2 :: o3 :: o4 :: o5 :: o6 :: rest).toArray listed).contains 6 = true)
    (hQ : ∀ c a w, Q (.panic c) (a.put o6.dst v) w → Q (.panic c) a w) (hy : YieldsIf P (o0 :: o1 :: o2 :: o3 :: o4 :: o5 :: o6 :: rest).toArray S o6 v a) (hS : S w)
    (h : wpAnyH P md (o0 :: o1 :: o2 :: o3 :: o4 :: o5 :: o6 :: rest).toArray Q S fuel (listed.setIfInBounds 6 true) (a.put o6.dst v) w) : wpAnyH P md (o0 :: o1 :: o2 :: o3 :: o4 :: o5 :: o6 :: rest).toArray Q S (fuel + 1) listed a w :=
  wpAnyH_take (i := 6) (oi := o6) rfl hs hf hr hQ hy hS h
theorem rtake_7 {P : Program} {md : Region.Mode} {Q : Exit → Act → World → Prop} {S : World → Prop} {o0 o1 o2 o3 o4 o5 o6 o7 : Oper} {rest : List Oper} {v : Value} {fuel : Nat} {listed : Array Bool} {a : Act} {w : World}
    (hs : Region.noSelect (o0 :: o1 :: o2 :: o3 :: o4 :: o5 :: o6 :: o7 :: rest).toArray = true) (hf : Region.free md (o0 :: o1 :: o2 :: o3 :: o4 :: o5 :: o6 :: o7 :: rest).toArray listed 7 = true) (hr : (Region.ready md (o0 :: o1 :: o2 :: o3 :: o4 :: o5 :: o6 :: o7 :: rest).toArray listed).contains 7 = true)
    (hQ : ∀ c a w, Q (.panic c) (a.put o7.dst v) w → Q (.panic c) a w) (hy : YieldsIf P (o0 :: o1 :: o2 :: o3 :: o4 :: o5 :: o6 :: o7 :: rest).toArray S o7 v a) (hS : S w)
    (h : wpAnyH P md (o0 :: o1 :: o2 :: o3 :: o4 :: o5 :: o6 :: o7 :: rest).toArray Q S fuel (listed.setIfInBounds 7 true) (a.put o7.dst v) w) : wpAnyH P md (o0 :: o1 :: o2 :: o3 :: o4 :: o5 :: o6 :: o7 :: rest).toArray Q S (fuel + 1) listed a w :=
  wpAnyH_take (i := 7) (oi := o7) rfl hs hf hr hQ hy hS h
theorem rtake_8 {P : Program} {md : Region.Mode} {Q : Exit → Act → World → Prop} {S : World → Prop} {o0 o1 o2 o3 o4 o5 o6 o7 o8 : Oper} {rest : List Oper} {v : Value} {fuel : Nat} {listed : Array Bool} {a : Act} {w : World}
    (hs : Region.noSelect (o0 :: o1 :: o2 :: o3 :: o4 :: o5 :: o6 :: o7 :: o8 :: rest).toArray = true) (hf : Region.free md (o0 :: o1 :: o2 :: o3 :: o4 :: o5 :: o6 :: o7 :: o8 :: rest).toArray listed 8 = true) (hr : (Region.ready md (o0 :: o1 :: o2 :: o3 :: o4 :: o5 :: o6 :: o7 :: o8 :: rest).toArray listed).contains 8 = true)
    (hQ : ∀ c a w, Q (.panic c) (a.put o8.dst v) w → Q (.panic c) a w) (hy : YieldsIf P (o0 :: o1 :: o2 :: o3 :: o4 :: o5 :: o6 :: o7 :: o8 :: rest).toArray S o8 v a) (hS : S w)
    (h : wpAnyH P md (o0 :: o1 :: o2 :: o3 :: o4 :: o5 :: o6 :: o7 :: o8 :: rest).toArray Q S fuel (listed.setIfInBounds 8 true) (a.put o8.dst v) w) : wpAnyH P md (o0 :: o1 :: o2 :: o3 :: o4 :: o5 :: o6 :: o7 :: o8 :: rest).toArray Q S (fuel + 1) listed a w :=
  wpAnyH_take (i := 8) (oi := o8) rfl hs hf hr hQ hy hS h
theorem rtake_9 {P : Program} {md : Region.Mode} {Q : Exit → Act → World → Prop} {S : World → Prop} {o0 o1 o2 o3 o4 o5 o6 o7 o8 o9 : Oper} {rest : List Oper} {v : Value} {fuel : Nat} {listed : Array Bool} {a : Act} {w : World}
    (hs : Region.noSelect (o0 :: o1 :: o2 :: o3 :: o4 :: o5 :: o6 :: o7 :: o8 :: o9 :: rest).toArray = true) (hf : Region.free md (o0 :: o1 :: o2 :: o3 :: o4 :: o5 :: o6 :: o7 :: o8 :: o9 :: rest).toArray listed 9 = true) (hr : (Region.ready md (o0 :: o1 :: o2 :: o3 :: o4 :: o5 :: o6 :: o7 :: o8 :: o9 :: rest).toArray listed).contains 9 = true)
    (hQ : ∀ c a w, Q (.panic c) (a.put o9.dst v) w → Q (.panic c) a w) (hy : YieldsIf P (o0 :: o1 :: o2 :: o3 :: o4 :: o5 :: o6 :: o7 :: o8 :: o9 :: rest).toArray S o9 v a) (hS : S w)
    (h : wpAnyH P md (o0 :: o1 :: o2 :: o3 :: o4 :: o5 :: o6 :: o7 :: o8 :: o9 :: rest).toArray Q S fuel (listed.setIfInBounds 9 true) (a.put o9.dst v) w) : wpAnyH P md (o0 :: o1 :: o2 :: o3 :: o4 :: o5 :: o6 :: o7 :: o8 :: o9 :: rest).toArray Q S (fuel + 1) listed a w :=
  wpAnyH_take (i := 9) (oi := o9) rfl hs hf hr hQ hy hS h
theorem rtake_10 {P : Program} {md : Region.Mode} {Q : Exit → Act → World → Prop} {S : World → Prop} {o0 o1 o2 o3 o4 o5 o6 o7 o8 o9 o10 : Oper} {rest : List Oper} {v : Value} {fuel : Nat} {listed : Array Bool} {a : Act} {w : World}
    (hs : Region.noSelect (o0 :: o1 :: o2 :: o3 :: o4 :: o5 :: o6 :: o7 :: o8 :: o9 :: o10 :: rest).toArray = true) (hf : Region.free md (o0 :: o1 :: o2 :: o3 :: o4 :: o5 :: o6 :: o7 :: o8 :: o9 :: o10 :: rest).toArray listed 10 = true) (hr : (Region.ready md (o0 :: o1 :: o2 :: o3 :: o4 :: o5 :: o6 :: o7 :: o8 :: o9 :: o10 :: rest).toArray listed).contains 10 = true)
    (hQ : ∀ c a w, Q (.panic c) (a.put o10.dst v) w → Q (.panic c) a w) (hy : YieldsIf P (o0 :: o1 :: o2 :: o3 :: o4 :: o5 :: o6 :: o7 :: o8 :: o9 :: o10 :: rest).toArray S o10 v a) (hS : S w)
    (h : wpAnyH P md (o0 :: o1 :: o2 :: o3 :: o4 :: o5 :: o6 :: o7 :: o8 :: o9 :: o10 :: rest).toArray Q S fuel (listed.setIfInBounds 10 true) (a.put o10.dst v) w) : wpAnyH P md (o0 :: o1 :: o2 :: o3 :: o4 :: o5 :: o6 :: o7 :: o8 :: o9 :: o10 :: rest).toArray Q S (fuel + 1) listed a w :=
  wpAnyH_take (i := 10) (oi := o10) rfl hs hf hr hQ hy hS h
theorem rtake_11 {P : Program} {md : Region.Mode} {Q : Exit → Act → World → Prop} {S : World → Prop} {o0 o1 o2 o3 o4 o5 o6 o7 o8 o9 o10 o11 : Oper} {rest : List Oper} {v : Value} {fuel : Nat} {listed : Array Bool} {a : Act} {w : World}
    (hs : Region.noSelect (o0 :: o1 :: o2 :: o3 :: o4 :: o5 :: o6 :: o7 :: o8 :: o9 :: o10 :: o11 :: rest).toArray = true) (hf : Region.free md (o0 :: o1 :: o2 :: o3 :: o4 :: o5 :: o6 :: o7 :: o8 :: o9 :: o10 :: o11 :: rest).toArray listed 11 = true) (hr : (Region.ready md (o0 :: o1 :: o2 :: o3 :: o4 :: o5 :: o6 :: o7 :: o8 :: o9 :: o10 :: o11 :: rest).toArray listed).contains 11 = true)
    (hQ : ∀ c a w, Q (.panic c) (a.put o11.dst v) w → Q (.panic c) a w) (hy : YieldsIf P (o0 :: o1 :: o2 :: o3 :: o4 :: o5 :: o6 :: o7 :: o8 :: o9 :: o10 :: o11 :: rest).toArray S o11 v a) (hS : S w)
    (h : wpAnyH P md (o0 :: o1 :: o2 :: o3 :: o4 :: o5 :: o6 :: o7 :: o8 :: o9 :: o10 :: o11 :: rest).toArray Q S fuel (listed.setIfInBounds 11 true) (a.put o11.dst v) w) : wpAnyH P md (o0 :: o1 :: o2 :: o3 :: o4 :: o5 :: o6 :: o7 :: o8 :: o9 :: o10 :: o11 :: rest).toArray Q S (fuel + 1) listed a w :=
  wpAnyH_take (i := 11) (oi := o11) rfl hs hf hr hQ hy hS h
theorem rtake_12 {P : Program} {md : Region.Mode} {Q : Exit → Act → World → Prop} {S : World → Prop} {o0 o1 o2 o3 o4 o5 o6 o7 o8 o9 o10 o11 o12 : Oper} {rest : List Oper} {v : Value} {fuel : Nat} {listed : Array Bool} {a : Act} {w : World}
    (hs : Region.noSelect (o0 :: o1 :: o2 :: o3 :: o4 :: o5 :: o6 :: o7 :: o8 :: o9 :: o10 :: o11 :: o12 :: rest).toArray = true) (hf : Region.free md (o0 :: o1 :: o2 :: o3 :: o4 :: o5 :: o6 :: o7 :: o8 :: o9 :: o10 :: o11 :: o12 :: rest).toArray listed 12 = true) (hr : (Region.ready md (o0 :: o1 :: o2 :: o3 :: o4 :: o5 :: o6 :: o7 :: o8 :: o9 :: o10 :: o11 :: o12 :: rest).toArray listed).contains 12 = true)
    (hQ : ∀ c a w, Q (.panic c) (a.put o12.dst v) w → Q (.panic c) a w) (hy : YieldsIf P (o0 :: o1 :: o2 :: o3 :: o4 :: o5 :: o6 :: o7 :: o8 :: o9 :: o10 :: o11 :: o12 :: rest).toArray S o12 v a) (hS : S w)
    (h : wpAnyH P md (o0 :: o1 :: o2 :: o3 :: o4 :: o5 :: o6 :: o7 :: o8 :: o9 :: o10 :: o11 :: o12 :: rest).toArray Q S fuel (listed.setIfInBounds 12 true) (a.put o12.dst v) w) : wpAnyH P md (o0 :: o1 :: o2 :: o3 :: o4 :: o5 :: o6 :: o7 :: o8 :: o9 :: o10 :: o11 :: o12 :: rest).toArray Q S (fuel + 1) listed a w :=
  wpAnyH_take (i := 12) (oi := o12) rfl hs hf hr hQ hy hS h
theorem rtake_13 {P : Program} {md : Region.Mode} {Q : Exit → Act → World → Prop} {S : World → Prop} {o0 o1 o2 o3 o4 o5 o6 o7 o8 o9 o10 o11 o12 o13 : Oper} {rest : List Oper} {v : Value} {fuel : Nat} {listed : Array Bool} {a : Act} {w : World}
    (hs : Region.noSelect (o0 :: o1 :: o2 :: o3 :: o4 :: o5 :: o6 :: o7 :: o8 :: o9 :: o10 :: o11 :: o12 :: o13 :: rest).toArray = true) (hf : Region.free md (o0 :: o1 :: o2 :: o3 :: o4 :: o5 :: o6 :: o7 :: o8 :: o9 :: o10 :: o11 :: o12 :: o13 :: rest).toArray listed 13 = true) (hr : (Region.ready md (o0 :: o1 :: o2 :: o3 :: o4 :: o5 :: o6 :: o7 :: o8 :: o9 :: o10 :: o11 :: o12 :: o13 :: rest).toArray listed).contains 13 = true)
    (hQ : ∀ c a w, Q (.panic c) (a.put o13.dst v) w → Q (.panic c) a w) (hy : YieldsIf P (o0 :: o1 :: o2 :: o3 :: o4 :: o5 :: o6 :: o7 :: o8 :: o9 :: o10 :: o11 :: o12 :: o13 :: rest).toArray S o13 v a) (hS : S w)
    (h : wpAnyH P md (o0 :: o1 :: o2 :: o3 :: o4 :: o5 :: o6 :: o7 :: o8 :: o9 :: o10 :: o11 :: o12 :: o13 :: rest).toArray Q S fuel (listed.setIfInBounds 13 true) (a.put o13.dst v) w) : wpAnyH P md (o0 :: o1 :: o2 :: o3 :: o4 :: o5 :: o6 :: o7 :: o8 :: o9 :: o10 :: o11 :: o12 :: o13 :: rest).toArray Q S (fuel + 1) listed a w :=
  wpAnyH_take (i := 13) (oi := o13) rfl hs hf hr hQ hy hS h
theorem rtake_14 {P : Program} {md : Region.Mode} {Q : Exit → Act → World → Prop} {S : World → Prop} {o0 o1 o2 o3 o4 o5 o6 o7 o8 o9 o10 o11 o12 o13 o14 : Oper} {rest : List Oper} {v : Value} {fuel : Nat} {listed : Array Bool} {a : Act} {w : World}
    (hs : Region.noSelect (o0 :: o1 :: o2 :: o3 :: o4 :: o5 :: o6 :: o7 :: o8 :: o9 :: o10 :: o11 :: o12 :: o13 :: o14 :: rest).toArray = true) (hf : Region.free md (o0 :: o1 :: o2 :: o3 :: o4 :: o5 :: o6 :: o7 :: o8 :: o9 :: o10 :: o11 :: o12 :: o13 :: o14 :: rest).toArray listed 14 = true) (hr : (Region.ready md (o0 :: o1 :: o2 :: o3 :: o4 :: o5 :: o6 :: o7 :: o8 :: o9 :: o10 :: o11 :: o12 :: o13 :: o14 :: rest).toArray listed).contains 14 = true)
    (hQ : ∀ c a w, Q (.panic c) (a.put o14.dst v) w → Q (.panic c) a w) (hy : YieldsIf P (o0 :: o1 :: o2 :: o3 :: o4 :: o5 :: o6 :: o7 :: o8 :: o9 :: o10 :: o11 :: o12 :: o13 :: o14 :: rest).toArray S o14 v a) (hS : S w)
    (h : wpAnyH P md (o0 :: o1 :: o2 :: o3 :: o4 :: o5 :: o6 :: o7 :: o8 :: o9 :: o10 :: o11 :: o12 :: o13 :: o14 :: rest).toArray Q S fuel (listed.setIfInBounds 14 true) (a.put o14.dst v) w) : wpAnyH P md (o0 :: o1 :: o2 :: o3 :: o4 :: o5 :: o6 :: o7 :: o8 :: o9 :: o10 :: o11 :: o12 :: o13 :: o14 :: rest).toArray Q S (fuel + 1) listed a w :=
  wpAnyH_take (i := 14) (oi := o14) rfl hs hf hr hQ hy hS h
theorem rtake_15 {P : Program} {md : Region.Mode} {Q : Exit → Act → World → Prop} {S : World → Prop} {o0 o1 o2 o3 o4 o5 o6 o7 o8 o9 o10 o11 o12 o13 o14 o15 : Oper} {rest : List Oper} {v : Value} {fuel : Nat} {listed : Array Bool} {a : Act} {w : World}
    (hs : Region.noSelect (o0 :: o1 :: o2 :: o3 :: o4 :: o5 :: o6 :: o7 :: o8 :: o9 :: o10 :: o11 :: o12 :: o13 :: o14 :: o15 :: rest).toArray = true) (hf : Region.free md (o0 :: o1 :: o2 :: o3 :: o4 :: o5 :: o6 :: o7 :: o8 :: o9 :: o10 :: o11 :: o12 :: o13 :: o14 :: o15 :: rest).toArray listed 15 = true) (hr : (Region.ready md (o0 :: o1 :: o2 :: o3 :: o4 :: o5 :: o6 :: o7 :: o8 :: o9 :: o10 :: o11 :: o12 :: o13 :: o14 :: o15 :: rest).toArray listed).contains 15 = true)
    (hQ : ∀ c a w, Q (.panic c) (a.put o15.dst v) w → Q (.panic c) a w) (hy : YieldsIf P (o0 :: o1 :: o2 :: o3 :: o4 :: o5 :: o6 :: o7 :: o8 :: o9 :: o10 :: o11 :: o12 :: o13 :: o14 :: o15 :: rest).toArray S o15 v a) (hS : S w)
    (h : wpAnyH P md (o0 :: o1 :: o2 :: o3 :: o4 :: o5 :: o6 :: o7 :: o8 :: o9 :: o10 :: o11 :: o12 :: o13 :: o14 :: o15 :: rest).toArray Q S fuel (listed.setIfInBounds 15 true) (a.put o15.dst v) w) : wpAnyH P md (o0 :: o1 :: o2 :: o3 :: o4 :: o5 :: o6 :: o7 :: o8 :: o9 :: o10 :: o11 :: o12 :: o13 :: o14 :: o15 :: rest).toArray Q S (fuel + 1) listed a w :=
  wpAnyH_take (i := 15) (oi := o15) rfl hs hf hr hQ hy hS h
theorem rready_15 {P : Program} {md : Region.Mode} {Q : Exit → Act → World → Prop} {S : World → Prop} {o0 o1 o2 o3 o4 o5 o6 o7 o8 o9 o10 o11 o12 o13 o14 o15 : Oper} {rest : List Oper} {fuel : Nat} {listed : Array Bool} {a : Act} {w : World}
    (hr : Region.ready md (o0 :: o1 :: o2 :: o3 :: o4 :: o5 :: o6 :: o7 :: o8 :: o9 :: o10 :: o11 :: o12 :: o13 :: o14 :: o15 :: rest).toArray listed = [15])
    (h : ∀ K' : Act → World → Prop, Shut (∀ a w, S w → (S w → wpAnyH P md (o0 :: o1 :: o2 :: o3 :: o4 :: o5 :: o6 :: o7 :: o8 :: o9 :: o10 :: o11 :: o12 :: o13 :: o14 :: o15 :: rest).toArray Q S fuel (listed.setIfInBounds 15 true) a w) → K' a w) → if Region.wanted o15 (yielded (o0 :: o1 :: o2 :: o3 :: o4 :: o5 :: o6 :: o7 :: o8 :: o9 :: o10 :: o11 :: o12 :: o13 :: o14 :: o15 :: rest).toArray a.tmps) = true then Oper.wp P o15 a w K' Q else K' (a.put o15.dst undef) w) :
    wpAnyH P md (o0 :: o1 :: o2 :: o3 :: o4 :: o5 :: o6 :: o7 :: o8 :: o9 :: o10 :: o11 :: o12 :: o13 :: o14 :: o15 :: rest).toArray Q S (fuel + 1) listed a w :=
  wpAnyH_ready hr (by simp) (AllReadyH.cons (i := 15) (o := o15) rfl h AllReadyH.nil)
theorem rtake_16 {P : Program} {md : Region.Mode} {Q : Exit → Act → World → Prop} {S : World → Prop} {o0 o1 o2 o3 o4 o5 o6 o7 o8 o9 o10 o11 o12 o13 o14 o15 o16 : Oper} {rest : List Oper} {v : Value} {fuel : Nat} {listed : Array Bool} {a : Act} {w : World}
    (hs : Region.noSelect (o0 :: o1 :: o2 :: o3 :: o4 :: o5 :: o6 :: o7 :: o8 :: o9 :: o10 :: o11 :: o12 :: o13 :: o14 :: o15 :: o16 :: rest).toArray = true) (hf : Region.free md (o0 :: o1 :: o2 :: o3 :: o4 :: o5 :: o6 :: o7 :: o8 :: o9 :: o10 :: o11 :: o12 :: o13 :: o14 :: o15 :: o16 :: rest).toArray listed 16 = true) (hr : (Region.ready md (o0 :: o1 :: o2 :: o3 :: o4 :: o5 :: o6 :: o7 :: o8 :: o9 :: o10 :: o11 :: o12 :: o13 :: o14 :: o15 :: o16 :: rest).toArray listed).contains 16 = true)
    (hQ : ∀ c a w, Q (.panic c) (a.put o16.dst v) w → Q (.panic c) a w) (hy : YieldsIf P (o0 :: o1 :: o2 :: o3 :: o4 :: o5 :: o6 :: o7 :: o8 :: o9 :: o10 :: o11 :: o12 :: o13 :: o14 :: o15 :: o16 :: rest).toArray S o16 v a) (hS : S w)
    (h : wpAnyH P md (o0 :: o1 :: o2 :: o3 :: o4 :: o5 :: o6 :: o7 :: o8 :: o9 :: o10 :: o11 :: o12 :: o13 :: o14 :: o15 :: o16 :: rest).toArray Q S fuel (listed.setIfInBounds 16 true) (a.put o16.dst v) w) : wpAnyH P md (o0 :: o1 :: o2 :: o3 :: o4 :: o5 :: o6 :: o7 :: o8 :: o9 :: o10 :: o11 :: o12 :: o13 :: o14 :: o15 :: o16 :: rest).toArray Q S (fuel + 1) listed a w :=
  wpAnyH_take (i := 16) (oi := o16) rfl hs hf hr hQ hy hS h
theorem rready_16 {P : Program} {md : Region.Mode} {Q : Exit → Act → World → Prop} {S : World → Prop} {o0 o1 o2 o3 o4 o5 o6 o7 o8 o9 o10 o11 o12 o13 o14 o15 o16 : Oper} {rest : List Oper} {fuel : Nat} {listed : Array Bool} {a : Act} {w : World}
    (hr : Region.ready md (o0 :: o1 :: o2 :: o3 :: o4 :: o5 :: o6 :: o7 :: o8 :: o9 :: o10 :: o11 :: o12 :: o13 :: o14 :: o15 :: o16 :: rest).toArray listed = [16])
    (h : ∀ K' : Act → World → Prop, Shut (∀ a w, S w → (S w → wpAnyH P md (o0 :: o1 :: o2 :: o3 :: o4 :: o5 :: o6 :: o7 :: o8 :: o9 :: o10 :: o11 :: o12 :: o13 :: o14 :: o15 :: o16 :: rest).toArray Q S fuel (listed.setIfInBounds 16 true) a w) → K' a w) → if Region.wanted o16 (yielded (o0 :: o1 :: o2 :: o3 :: o4 :: o5 :: o6 :: o7 :: o8 :: o9 :: o10 :: o11 :: o12 :: o13 :: o14 :: o15 :: o16 :: rest).toArray a.tmps) = true then Oper.wp P o16 a w K' Q else K' (a.put o16.dst undef) w) :
    wpAnyH P md (o0 :: o1 :: o2 :: o3 :: o4 :: o5 :: o6 :: o7 :: o8 :: o9 :: o10 :: o11 :: o12 :: o13 :: o14 :: o15 :: o16 :: rest).toArray Q S (fuel + 1) listed a w :=
  wpAnyH_ready hr (by simp) (AllReadyH.cons (i := 16) (o := o16) rfl h AllReadyH.nil)
theorem rtake_17 {P : Program} {md : Region.Mode} {Q : Exit → Act → World → Prop} {S : World → Prop} {o0 o1 o2 o3 o4 o5 o6 o7 o8 o9 o10 o11 o12 o13 o14 o15 o16 o17 : Oper} {rest : List Oper} {v : Value} {fuel : Nat} {listed : Array Bool} {a : Act} {w : World}
    (hs : Region.noSelect (o0 :: o1 :: o2 :: o3 :: o4 :: o5 :: o6 :: o7 :: o8 :: o9 :: o10 :: o11 :: o12 :: o13 :: o14 :: o15 :: o16 :: o17 :: rest).toArray = true) (hf : Region.free md (o0 :: o1 :: o2 :: o3 :: o4 :: o5 :: o6 :: o7 :: o8 :: o9 :: o10 :: o11 :: o12 :: o13 :: o14 :: o15 :: o16 :: o17 :: rest).toArray listed 17 = true) (hr : (Region.ready md (o0 :: o1 :: o2 :: o3 :: o4 :: o5 :: o6 :: o7 :: o8 :: o9 :: o10 :: o11 :: o12 :: o13 :: o14 :: o15 :: o16 :: o17 :: rest).toArray listed).contains 17 = true)
    (hQ : ∀ c a w, Q (.panic c) (a.put o17.dst v) w → Q (.panic c) a w) (hy : YieldsIf P (o0 :: o1 :: o2 :: o3 :: o4 :: o5 :: o6 :: o7 :: o8 :: o9 :: o10 :: o11 :: o12 :: o13 :: o14 :: o15 :: o16 :: o17 :: rest).toArray S o17 v a) (hS : S w)
    (h : wpAnyH P md (o0 :: o1 :: o2 :: o3 :: o4 :: o5 :: o6 :: o7 :: o8 :: o9 :: o10 :: o11 :: o12 :: o13 :: o14 :: o15 :: o16 :: o17 :: rest).toArray Q S fuel (listed.setIfInBounds 17 true) (a.put o17.dst v) w) : wpAnyH P md (o0 :: o1 :: o2 :: o3 :: o4 :: o5 :: o6 :: o7 :: o8 :: o9 :: o10 :: o11 :: o12 :: o13 :: o14 :: o15 :: o16 :: o17 :: rest).toArray Q S (fuel + 1) listed a w :=
  wpAnyH_take (i := 17) (oi := o17) rfl hs hf hr hQ hy hS h
theorem rtake_18 {P : Program} {md : Region.Mode} {Q : Exit → Act → World → Prop} {S : World → Prop} {o0 o1 o2 o3 o4 o5 o6 o7 o8 o9 o10 o11 o12 o13 o14 o15 o16 o17 o18 : Oper} {rest : List Oper} {v : Value} {fuel : Nat} {listed : Array Bool} {a : Act} {w : World}
    (hs : Region.noSelect (o0 :: o1 :: o2 :: o3 :: o4 :: o5 :: o6 :: o7 :: o8 :: o9 :: o10 :: o11 :: o12 :: o13 :: o14 :: o15 :: o16 :: o17 :: o18 :: rest).toArray = true) (hf : Region.free md (o0 :: o1 :: o2 :: o3 :: o4 :: o5 :: o6 :: o7 :: o8 :: o9 :: o10 :: o11 :: o12 :: o13 :: o14 :: o15 :: o16 :: o17 :: o18 :: rest).toArray listed 18 = true) (hr : (Region.ready md (o0 :: o1 :: o2 :: o3 :: o4 :: o5 :: o6 :: o7 :: o8 :: o9 :: o10 :: o11 :: o12 :: o13 :: o14 :: o15 :: o16 :: o17 :: o18 :: rest).toArray listed).contains 18 = true)
    (hQ : ∀ c a w, Q (.panic c) (a.put o18.dst v) w → Q (.panic c) a w) (hy : YieldsIf P (o0 :: o1 :: o2 :: o3 :: o4 :: o5 :: o6 :: o7 :: o8 :: o9 :: o10 :: o11 :: o12 :: o13 :: o14 :: o15 :: o16 :: o17 :: o18 :: rest).toArray S o18 v a) (hS : S w)
    (h : wpAnyH P md (o0 :: o1 :: o2 :: o3 :: o4 :: o5 :: o6 :: o7 :: o8 :: o9 :: o10 :: o11 :: o12 :: o13 :: o14 :: o15 :: o16 :: o17 :: o18 :: rest).toArray Q S fuel (listed.setIfInBounds 18 true) (a.put o18.dst v) w) : wpAnyH P md (o0 :: o1 :: o2 :: o3 :: o4 :: o5 :: o6 :: o7 :: o8 :: o9 :: o10 :: o11 :: o12 :: o13 :: o14 :: o15 :: o16 :: o17 :: o18 :: rest).toArray Q S (fuel + 1) listed a w :=
  wpAnyH_take (i := 18) (oi := o18) rfl hs hf hr hQ hy hS h
theorem hdr_wideR {a r : Int} {B P : List Int} {n : Int} (h : hdrB a r B P n = true) : wideB a r B P = true := by
  simp only [hdrB, decide_eq_true_eq] at h
  obtain ⟨hm, ha, hr, hB, hP, hl⟩ := h
  simp only [mayB, decide_eq_true_eq] at hm
  simp only [wideB, decide_eq_true_eq]
  rw [digsB_iff] at hP
  refine ⟨by omega, hr, hB, digsB_iff.2 ⟨by omega, hP.2⟩, ?_⟩
  by_cases h1 : r = 1
  · rw [if_pos h1] at hl; exact .inr hl
  · exact .inl (by omega)
theorem mess_formR {m : MsgD} {n : Int} (h : messB m n = true) : formB m n = true := by
  unfold messB at h
  rw [Bool.and_eq_true, Bool.and_eq_true] at h
  exact h.2.1
theorem size_mesR : (Try.prog.info? 42).map (·.size) = some 18 := by kernel_rfl
theorem realR_ok {L : List (List Int)} {S : List (Int × Int)} {n : Int} {l : List Int} {m : MsgD} {v : Int} (hv : realR L S n l m = v) (hm : messB m n = true) : v = if okR L S l m = true then 0 else 7 := by rw [← hv, realR, if_pos hm]
theorem allBy_next {S : List (Int × Int)} {l : List Int} {d : Int} {c : List Int} {k : Nat} (h : k < c.length) : allBy S l d (c.take (k + 1)) = (allBy S l d (c.take k) && byB S l (c[k]?.getD 0) d) := by
  have e : c.take (k + 1) = c.take k ++ [c[k]?.getD 0] := by
    rw [List.take_add_one, List.getElem?_eq_getElem h]; rfl
  rw [e, allBy, allBy, List.all_append]
  simp

set_option maxRecDepth 100000 in
set_option maxHeartbeats 16000000 in
theorem rreal_is {F : Nat → Prop} (v : Int) (g : Nat) (L : List (List Int)) (S : List (Int × Int)) (A : Option Addr) (c nl : Nat) (l : List Int) (m : MsgD) (a : MsgA) (n : Int) (w : World) (h : IsRef w g F L S) (hv : realR L S n l m = v) (hi : MsgIn w m a) (hf : MsgFew 1000000 a)
    (hz : l.length = nl) (hr : Rd w A (i64s l)) (hnl : nl ≤ 1073741824) (hS : S.length ≤ 1000) (hL : L.length ≤ 1000) (hs : ∀ y ∈ L, y.length ≤ 1073741824) :
    Calls Try.prog 24 #[.pointer (some ⟨g, 0, none⟩), .int .i64 n, .slice A nl c, msgV m a] w (Tells w.heap.size w (.int .i64 v)) := by
  obtain ⟨w1, hw1⟩ : ∃ w1, w1 = w.alloc (.cells #[.int .i64 m.k, .int .i64 m.f, .int .i64 m.t, .int .i64 m.d, .int .i64 m.ba, .int .i64 m.bn, .slice a.AL a.nL a.cL, .int .i64 m.ha, .int .i64 m.hr, .slice a.AhB a.nhB a.chB, .slice a.AhP a.nhP a.chP, .int .i64 m.ca, .int .i64 m.cr, .slice a.AcB a.ncB a.ccB, .slice a.AcP a.ncP a.ccP, .int .i64 m.cd, .slice a.AcS a.ncS a.ccS, .slice a.AD a.nD a.cD] 42) := ⟨_, rfl⟩
  have hb1 : Below w.heap.size w w1 := by rw [hw1]; exact (Below.refl _ _).alloc (Nat.le_refl _) _
  have bx1 : Box w1 w.heap.size (msgC m a) := by
    rw [hw1]
    exact box_new w (msgC m a) 42
  have HW := Lib.hid hw1
  have HX : Hid (∀ wX, Below w1.heap.size w1 wX → Box wX w.heap.size (msgC m a)) := fun wX h => bx1.below h bx1.1
  have HI : Hid (∀ wX, Below w1.heap.size w1 wX → MsgIn wX m a) := fun wX h => hi.below (hb1.trans (h.mono hb1.size))
  have HR : Hid (∀ wX, Below w1.heap.size w1 wX → IsRef wX g F L S) := fun wX hX => h.below (hb1.trans (hX.mono hb1.size))
  have HLI : Hid (∀ wX, Below w1.heap.size w1 wX → Rd wX A (i64s l)) := fun wX hX => hr.below (hb1.trans (hX.mono hb1.size))
  have HF := Lib.hid hf
  have HZ := Lib.hid hz
  have HS := Lib.hid hs
  have HV := Lib.hid hv
  clear hw1 bx1 hi hf h hr hz hs hv
  unfold msgV
  go_enter Try.func24, Try.ntmps24
  go_upto_region 1 with fail
  rw [← HW.out]
  go_wp2_with (refine wpList_load_box rfl 42 _ rfl w.heap.size rfl (msgC m a) (HX.out _ (Below.refl _ _)) _ Try.underlying42 rfl size_mesR ?_)
  refine (rmsg_is (messB m n) m a n _ rfl (HI.out _ (Below.refl _ _)) HF.out).mono ?_
  rintro e w2 ⟨rfl, hb2⟩
  have hb3 := hb1.trans (hb2.mono hb1.size)
  cases hm : messB m n with
  | false =>
    have HN : Hid (v = 1) := by show v = 1; rw [← HV.out, realR, hm]; rfl
    clear hm
    go_wp2_with fail
    go_ret
    exact ⟨by rw [HN.out]; rfl, hb3⟩
  | true =>
    have HM := Lib.hid hm
    have HVV := Lib.hid (realR_ok HV.out hm)
    have HFO := Lib.hid (mess_formR hm)
    clear hm
    have x0 := ((HX.out _ hb2).2 0 _ rfl).1
    go_upto_region 6 with fail
    clear x0
    by_cases hk : m.k = 1
    · have e1 : (m.k == 1) = true := by simp [hk]
      have e3 : (m.k == 3) = false := by simp [hk]
      have e4 : (m.k == 4) = false := by simp [hk]
      have e6 : (m.k == 6) = false := by simp [hk]
      have e2 : (m.k == 2) = false := by simp [hk]
      have e5 : (m.k == 5) = false := by simp [hk]
      have HOK : Hid (okR L S l m = (decide (((findB L (batBytes m.ba m.bn m.L) : Nat) : Int) = m.d) && byB S l m.ba m.d)) := by show okR L S l m = _; unfold okR; simp [hk]
      have hbt : batB m.ba m.bn m.L = true := by have h := HFO.out; unfold formB at h; simp only [hk, true_or, if_true, Bool.and_eq_true] at h; exact h.2.1
      have HBT := Lib.hid hbt
      have hsm := bytes_small hbt
      obtain ⟨bs, hbs⟩ : ∃ bs, bs = batBytes m.ba m.bn m.L := ⟨_, rfl⟩
      rw [← hbs] at hsm HOK
      obtain ⟨nb, hnb⟩ : ∃ nb, bs.length = nb := ⟨_, rfl⟩
      rw [hnb] at hsm
      have HNB := Lib.hid hnb
      have HBS := Lib.hid hbs
      obtain ⟨fd, hfd⟩ : ∃ fd, findB L bs = fd := ⟨_, rfl⟩
      rw [hfd] at HOK
      have HFD := Lib.hid hfd
      clear hk hbt hnb hbs hfd
      have x3 := ((HX.out _ hb2).2 3 _ rfl).1
      have x4 := ((HX.out _ hb2).2 4 _ rfl).1
      have x5 := ((HX.out _ hb2).2 5 _ rfl).1
      have x6 := ((HX.out _ hb2).2 6 _ rfl).1
      by_cases hfe : ((fd : Nat) : Int) = m.d
      · have j1 : (((fd : Nat) : Int) == m.d) = true := by simp [hfe]
        have HOK2 : Hid (okR L S l m = byB S l m.ba m.d) := by show okR L S l m = _; rw [HOK.out, decide_eq_true hfe, Bool.true_and]
        have HFE := Lib.hid hfe
        clear hfe
        go_upto_region 8 with fail
        clear x3 x4 x5 x6
        have hxd : Below w1.heap.size w1 w2.drew := hb2.drew
        refine wp_region_held_drew (S := fun w' => Below w1.heap.size w1 w') (by kernel_rfl) hxd (fun _ => ?_)
        refine rtake_0 (v := ?vv1) (by kernel_rfl) (by kernel_rfl) (by kernel_rfl) (fun _ _ _ h => h) (Or.inl ⟨by rfl, ?hy1⟩) hxd ?_
        case hy1 =>
          intro wX hSw
          have x3 := ((HX.out _ hSw).2 3 _ rfl).1
          have x4 := ((HX.out _ hSw).2 4 _ rfl).1
          have x5 := ((HX.out _ hSw).2 5 _ rfl).1
          have x6 := ((HX.out _ hSw).2 6 _ rfl).1
          go_simp
          try with_reducible rfl
        try simp only [Act.put, List.setIfInBounds_toArray, List.set_cons_zero, List.set_cons_succ]
        refine rtake_1 (v := ?vv2) (by kernel_rfl) (by kernel_rfl) (by kernel_rfl) (fun _ _ _ h => h) (Or.inl ⟨by rfl, ?hy2⟩) hxd ?_
        case hy2 =>
          intro wX hSw
          have x3 := ((HX.out _ hSw).2 3 _ rfl).1
          have x4 := ((HX.out _ hSw).2 4 _ rfl).1
          have x5 := ((HX.out _ hSw).2 5 _ rfl).1
          have x6 := ((HX.out _ hSw).2 6 _ rfl).1
          go_simp
          try with_reducible rfl
        try simp only [Act.put, List.setIfInBounds_toArray, List.set_cons_zero, List.set_cons_succ]
        refine rtake_2 (v := ?vv3) (by kernel_rfl) (by kernel_rfl) (by kernel_rfl) (fun _ _ _ h => h) (Or.inl ⟨by rfl, ?hy3⟩) hxd ?_
        case hy3 =>
          intro wX hSw
          have x3 := ((HX.out _ hSw).2 3 _ rfl).1
          have x4 := ((HX.out _ hSw).2 4 _ rfl).1
          have x5 := ((HX.out _ hSw).2 5 _ rfl).1
          have x6 := ((HX.out _ hSw).2 6 _ rfl).1
          go_simp
          try with_reducible rfl
        try simp only [Act.put, List.setIfInBounds_toArray, List.set_cons_zero, List.set_cons_succ]
        refine rtake_5 (v := ?vv4) (by kernel_rfl) (by kernel_rfl) (by kernel_rfl) (fun _ _ _ h => h) (Or.inl ⟨by rfl, ?hy4⟩) hxd ?_
        case hy4 =>
          intro wX hSw
          have x3 := ((HX.out _ hSw).2 3 _ rfl).1
          have x4 := ((HX.out _ hSw).2 4 _ rfl).1
          have x5 := ((HX.out _ hSw).2 5 _ rfl).1
          have x6 := ((HX.out _ hSw).2 6 _ rfl).1
          go_simp
          try with_reducible rfl
        try simp only [Act.put, List.setIfInBounds_toArray, List.set_cons_zero, List.set_cons_succ]
        refine rtake_6 (v := ?vv5) (by kernel_rfl) (by kernel_rfl) (by kernel_rfl) (fun _ _ _ h => h) (Or.inl ⟨by rfl, ?hy5⟩) hxd ?_
        case hy5 =>
          intro wX hSw
          have x3 := ((HX.out _ hSw).2 3 _ rfl).1
          have x4 := ((HX.out _ hSw).2 4 _ rfl).1
          have x5 := ((HX.out _ hSw).2 5 _ rfl).1
          have x6 := ((HX.out _ hSw).2 6 _ rfl).1
          go_simp
          try with_reducible rfl
        try simp only [Act.put, List.setIfInBounds_toArray, List.set_cons_zero, List.set_cons_succ]
        refine rready_3 (by kernel_rfl) ?_
        intro K hK
        rw [if_pos (by rfl)]
        try go_simp
        have qi := HI.out _ hxd
        refine (rbytes_any m.ba m.bn a.AL a.cL a.nL m.L _ HBT.out qi.zL (by first | exact qi.rL | exact (HI.out _ hb2).rL) qi.kL).mono ?_
        rintro e w3 ⟨v3, rfl, ho3, hq3⟩
        rw [← HBS.out] at ho3
        have ho3b := own_cast ho3 ((u8s_length _).trans HNB.out)
        obtain ⟨A3, c3, rfl, hc3, hm3, hr3, _, hl3⟩ := own_val ho3b
        clear hl3 ho3 ho3b
        have hx3 : Below w1.heap.size w1 w3 := (by first | exact hb2.trans (hq3.mono hb2.size) | exact hb2.drew.trans (hq3.mono hb2.size))
        refine hK.out _ _ hx3 (fun _ => ?_)
        clear hK K
        try simp only [Act.put, List.setIfInBounds_toArray, List.set_cons_zero, List.set_cons_succ]
        refine rready_4 (by kernel_rfl) ?_
        intro K hK
        rw [if_pos (by rfl)]
        try go_simp
        refine (rfind_any g L S A3 c3 nb bs _ (HR.out _ hx3) HNB.out hr3 (by omega) hL HS.out).mono ?_
        rintro e w4 ⟨rfl, d4, hw4⟩
        rw [HFD.out]
        have hx4 : Below w1.heap.size w1 w4 := hw4 ▸ below_n hx3 d4
        clear hw4
        refine hK.out _ _ hx4 (fun _ => ?_)
        clear hK K
        try simp only [Act.put, List.setIfInBounds_toArray, List.set_cons_zero, List.set_cons_succ]
        refine rtake_7 (v := ?vv6) (by kernel_rfl) (by kernel_rfl) (by kernel_rfl) (fun _ _ _ h => h) (Or.inl ⟨by rfl, ?hy6⟩) hx4 ?_
        case hy6 =>
          intro wX hSw
          go_simp
          try with_reducible rfl
        try simp only [Act.put, List.setIfInBounds_toArray, List.set_cons_zero, List.set_cons_succ]
        refine rtake_8 (v := ?vv7) (by kernel_rfl) (by kernel_rfl) (by kernel_rfl) (fun _ _ _ h => h) (Or.inl ⟨by rfl, ?hy7⟩) hx4 ?_
        case hy7 =>
          intro wX hSw
          go_simp
          try with_reducible rfl
        try simp only [Act.put, List.setIfInBounds_toArray, List.set_cons_zero, List.set_cons_succ]
        refine rtake_9 (v := ?vv8) (by kernel_rfl) (by kernel_rfl) (by kernel_rfl) (fun _ _ _ h => h) (Or.inl ⟨by rfl, ?hy8⟩) hx4 ?_
        case hy8 =>
          intro wX hSw
          have x3 := ((HX.out _ hSw).2 3 _ rfl).1
          have x4 := ((HX.out _ hSw).2 4 _ rfl).1
          have x5 := ((HX.out _ hSw).2 5 _ rfl).1
          have x6 := ((HX.out _ hSw).2 6 _ rfl).1
          go_simp
          try with_reducible rfl
        try simp only [Act.put, List.setIfInBounds_toArray, List.set_cons_zero, List.set_cons_succ]
        refine rtake_10 (v := ?vv9) (by kernel_rfl) (by kernel_rfl) (by kernel_rfl) (fun _ _ _ h => h) (Or.inl ⟨by rfl, ?hy9⟩) hx4 ?_
        case hy9 =>
          intro wX hSw
          have x3 := ((HX.out _ hSw).2 3 _ rfl).1
          have x4 := ((HX.out _ hSw).2 4 _ rfl).1
          have x5 := ((HX.out _ hSw).2 5 _ rfl).1
          have x6 := ((HX.out _ hSw).2 6 _ rfl).1
          go_simp
          try with_reducible rfl
        try simp only [Act.put, List.setIfInBounds_toArray, List.set_cons_zero, List.set_cons_succ]
        refine rtake_11 (v := ?vv10) (by kernel_rfl) (by kernel_rfl) (by kernel_rfl) (fun _ _ _ h => h) (Or.inl ⟨by rfl, ?hy10⟩) hx4 ?_
        case hy10 =>
          intro wX hSw
          have x3 := ((HX.out _ hSw).2 3 _ rfl).1
          have x4 := ((HX.out _ hSw).2 4 _ rfl).1
          have x5 := ((HX.out _ hSw).2 5 _ rfl).1
          have x6 := ((HX.out _ hSw).2 6 _ rfl).1
          go_simp
          try with_reducible rfl
        try simp only [Act.put, List.setIfInBounds_toArray, List.set_cons_zero, List.set_cons_succ]
        refine rtake_12 (v := ?vv11) (by kernel_rfl) (by kernel_rfl) (by kernel_rfl) (fun _ _ _ h => h) (Or.inl ⟨by rfl, ?hy11⟩) hx4 ?_
        case hy11 =>
          intro wX hSw
          have x3 := ((HX.out _ hSw).2 3 _ rfl).1
          have x4 := ((HX.out _ hSw).2 4 _ rfl).1
          have x5 := ((HX.out _ hSw).2 5 _ rfl).1
          have x6 := ((HX.out _ hSw).2 6 _ rfl).1
          go_simp
          try with_reducible rfl
        try simp only [Act.put, List.setIfInBounds_toArray, List.set_cons_zero, List.set_cons_succ]
        refine rtake_13 (v := ?vv12) (by kernel_rfl) (by kernel_rfl) (by kernel_rfl) (fun _ _ _ h => h) (Or.inl ⟨by rfl, ?hy12⟩) hx4 ?_
        case hy12 =>
          intro wX hSw
          have x3 := ((HX.out _ hSw).2 3 _ rfl).1
          have x4 := ((HX.out _ hSw).2 4 _ rfl).1
          have x5 := ((HX.out _ hSw).2 5 _ rfl).1
          have x6 := ((HX.out _ hSw).2 6 _ rfl).1
          go_simp
          try with_reducible rfl
        try simp only [Act.put, List.setIfInBounds_toArray, List.set_cons_zero, List.set_cons_succ]
        refine rtake_14 (v := ?vv13) (by kernel_rfl) (by kernel_rfl) (by kernel_rfl) (fun _ _ _ h => h) (Or.inl ⟨by rfl, ?hy13⟩) hx4 ?_
        case hy13 =>
          intro wX hSw
          have x3 := ((HX.out _ hSw).2 3 _ rfl).1
          have x4 := ((HX.out _ hSw).2 4 _ rfl).1
          have x5 := ((HX.out _ hSw).2 5 _ rfl).1
          have x6 := ((HX.out _ hSw).2 6 _ rfl).1
          go_simp
          try with_reducible rfl
        try simp only [Act.put, List.setIfInBounds_toArray, List.set_cons_zero, List.set_cons_succ]
        refine rtake_15 (v := ?vv14) (by kernel_rfl) (by kernel_rfl) (by kernel_rfl) (fun _ _ _ h => h) (Or.inl ⟨by rfl, ?hy14⟩) hx4 ?_
        case hy14 =>
          intro wX hSw
          have x3 := ((HX.out _ hSw).2 3 _ rfl).1
          have x4 := ((HX.out _ hSw).2 4 _ rfl).1
          have x5 := ((HX.out _ hSw).2 5 _ rfl).1
          have x6 := ((HX.out _ hSw).2 6 _ rfl).1
          go_simp
          try with_reducible rfl
        try simp only [Act.put, List.setIfInBounds_toArray, List.set_cons_zero, List.set_cons_succ]
        refine rready_16 (by kernel_rfl) ?_
        intro K hK
        rw [if_pos (by rfl)]
        try go_simp
        refine (rby_is (byB S l m.ba m.d) g L S A c nl l m.ba m.d _ (HR.out _ hx4) rfl HZ.out (HLI.out _ hx4) hnl hS).mono ?_
        rintro e w5 ⟨rfl, hw5⟩
        have hx5 : Below w1.heap.size w1 w5 := by rw [← hw5]; exact hx4
        clear hw5
        refine hK.out _ _ hx5 (fun _ => ?_)
        clear hK K
        try simp only [Act.put, List.setIfInBounds_toArray, List.set_cons_zero, List.set_cons_succ]
        refine rtake_17 (v := ?vv15) (by kernel_rfl) (by kernel_rfl) (by kernel_rfl) (fun _ _ _ h => h) (Or.inl ⟨by rfl, ?hy15⟩) hx5 ?_
        case hy15 =>
          intro wX hSw
          go_simp
          try with_reducible rfl
        try simp only [Act.put, List.setIfInBounds_toArray, List.set_cons_zero, List.set_cons_succ]
        refine rtake_18 (v := ?vv16) (by kernel_rfl) (by kernel_rfl) (by kernel_rfl) (fun _ _ _ h => h) (Or.inl ⟨by rfl, ?hy16⟩) hx5 ?_
        case hy16 =>
          intro wX hSw
          go_simp
          try with_reducible rfl
        try simp only [Act.put, List.setIfInBounds_toArray, List.set_cons_zero, List.set_cons_succ]
        refine wpAnyH_done (by kernel_rfl) ?_ _
        have hx4 := hx5
        have hb4 := hb1.trans (hx4.mono hb1.size)
        cases hby : byB S l m.ba m.d with
        | true =>
          have HN : Hid (v = 0) := by show v = 0; rw [HVV.out, HOK2.out, hby]; rfl
          clear hby
          go_wp2_with fail
          go_ret
          exact ⟨by rw [HN.out]; rfl, hb4⟩
        | false =>
          have HN : Hid (v = 7) := by show v = 7; rw [HVV.out, HOK2.out, hby]; rfl
          clear hby
          go_wp2_with fail
          go_ret
          exact ⟨by rw [HN.out]; rfl, hb4⟩
      · have j1 : (((fd : Nat) : Int) == m.d) = false := by simp [hfe]
        have HOK2 : Hid (okR L S l m = false) := by show okR L S l m = _; rw [HOK.out, decide_eq_false hfe, Bool.false_and]
        have HFE := Lib.hid hfe
        clear hfe
        go_upto_region 8 with fail
        clear x3 x4 x5 x6
        have hxd : Below w1.heap.size w1 w2.drew := hb2.drew
        refine wp_region_held_drew (S := fun w' => Below w1.heap.size w1 w') (by kernel_rfl) hxd (fun _ => ?_)
        refine rtake_0 (v := ?vv17) (by kernel_rfl) (by kernel_rfl) (by kernel_rfl) (fun _ _ _ h => h) (Or.inl ⟨by rfl, ?hy17⟩) hxd ?_
        case hy17 =>
          intro wX hSw
          have x3 := ((HX.out _ hSw).2 3 _ rfl).1
          have x4 := ((HX.out _ hSw).2 4 _ rfl).1
          have x5 := ((HX.out _ hSw).2 5 _ rfl).1
          have x6 := ((HX.out _ hSw).2 6 _ rfl).1
          go_simp
          try with_reducible rfl
        try simp only [Act.put, List.setIfInBounds_toArray, List.set_cons_zero, List.set_cons_succ]
        refine rtake_1 (v := ?vv18) (by kernel_rfl) (by kernel_rfl) (by kernel_rfl) (fun _ _ _ h => h) (Or.inl ⟨by rfl, ?hy18⟩) hxd ?_
        case hy18 =>
          intro wX hSw
          have x3 := ((HX.out _ hSw).2 3 _ rfl).1
          have x4 := ((HX.out _ hSw).2 4 _ rfl).1
          have x5 := ((HX.out _ hSw).2 5 _ rfl).1
          have x6 := ((HX.out _ hSw).2 6 _ rfl).1
          go_simp
          try with_reducible rfl
        try simp only [Act.put, List.setIfInBounds_toArray, List.set_cons_zero, List.set_cons_succ]
        refine rtake_2 (v := ?vv19) (by kernel_rfl) (by kernel_rfl) (by kernel_rfl) (fun _ _ _ h => h) (Or.inl ⟨by rfl, ?hy19⟩) hxd ?_
        case hy19 =>
          intro wX hSw
          have x3 := ((HX.out _ hSw).2 3 _ rfl).1
          have x4 := ((HX.out _ hSw).2 4 _ rfl).1
          have x5 := ((HX.out _ hSw).2 5 _ rfl).1
          have x6 := ((HX.out _ hSw).2 6 _ rfl).1
          go_simp
          try with_reducible rfl
        try simp only [Act.put, List.setIfInBounds_toArray, List.set_cons_zero, List.set_cons_succ]
        refine rtake_5 (v := ?vv20) (by kernel_rfl) (by kernel_rfl) (by kernel_rfl) (fun _ _ _ h => h) (Or.inl ⟨by rfl, ?hy20⟩) hxd ?_
        case hy20 =>
          intro wX hSw
          have x3 := ((HX.out _ hSw).2 3 _ rfl).1
          have x4 := ((HX.out _ hSw).2 4 _ rfl).1
          have x5 := ((HX.out _ hSw).2 5 _ rfl).1
          have x6 := ((HX.out _ hSw).2 6 _ rfl).1
          go_simp
          try with_reducible rfl
        try simp only [Act.put, List.setIfInBounds_toArray, List.set_cons_zero, List.set_cons_succ]
        refine rtake_6 (v := ?vv21) (by kernel_rfl) (by kernel_rfl) (by kernel_rfl) (fun _ _ _ h => h) (Or.inl ⟨by rfl, ?hy21⟩) hxd ?_
        case hy21 =>
          intro wX hSw
          have x3 := ((HX.out _ hSw).2 3 _ rfl).1
          have x4 := ((HX.out _ hSw).2 4 _ rfl).1
          have x5 := ((HX.out _ hSw).2 5 _ rfl).1
          have x6 := ((HX.out _ hSw).2 6 _ rfl).1
          go_simp
          try with_reducible rfl
        try simp only [Act.put, List.setIfInBounds_toArray, List.set_cons_zero, List.set_cons_succ]
        refine rready_3 (by kernel_rfl) ?_
        intro K hK
        rw [if_pos (by rfl)]
        try go_simp
        have qi := HI.out _ hxd
        refine (rbytes_any m.ba m.bn a.AL a.cL a.nL m.L _ HBT.out qi.zL (by first | exact qi.rL | exact (HI.out _ hb2).rL) qi.kL).mono ?_
        rintro e w3 ⟨v3, rfl, ho3, hq3⟩
        rw [← HBS.out] at ho3
        have ho3b := own_cast ho3 ((u8s_length _).trans HNB.out)
        obtain ⟨A3, c3, rfl, hc3, hm3, hr3, _, hl3⟩ := own_val ho3b
        clear hl3 ho3 ho3b
        have hx3 : Below w1.heap.size w1 w3 := (by first | exact hb2.trans (hq3.mono hb2.size) | exact hb2.drew.trans (hq3.mono hb2.size))
        refine hK.out _ _ hx3 (fun _ => ?_)
        clear hK K
        try simp only [Act.put, List.setIfInBounds_toArray, List.set_cons_zero, List.set_cons_succ]
        refine rready_4 (by kernel_rfl) ?_
        intro K hK
        rw [if_pos (by rfl)]
        try go_simp
        refine (rfind_any g L S A3 c3 nb bs _ (HR.out _ hx3) HNB.out hr3 (by omega) hL HS.out).mono ?_
        rintro e w4 ⟨rfl, d4, hw4⟩
        rw [HFD.out]
        have hx4 : Below w1.heap.size w1 w4 := hw4 ▸ below_n hx3 d4
        clear hw4
        refine hK.out _ _ hx4 (fun _ => ?_)
        clear hK K
        try simp only [Act.put, List.setIfInBounds_toArray, List.set_cons_zero, List.set_cons_succ]
        refine rtake_7 (v := ?vv22) (by kernel_rfl) (by kernel_rfl) (by kernel_rfl) (fun _ _ _ h => h) (Or.inl ⟨by rfl, ?hy22⟩) hx4 ?_
        case hy22 =>
          intro wX hSw
          go_simp
          try with_reducible rfl
        try simp only [Act.put, List.setIfInBounds_toArray, List.set_cons_zero, List.set_cons_succ]
        refine rtake_8 (v := ?vv23) (by kernel_rfl) (by kernel_rfl) (by kernel_rfl) (fun _ _ _ h => h) (Or.inl ⟨by rfl, ?hy23⟩) hx4 ?_
        case hy23 =>
          intro wX hSw
          go_simp
          try with_reducible rfl
        try simp only [Act.put, List.setIfInBounds_toArray, List.set_cons_zero, List.set_cons_succ]
        refine rtake_9 (v := undef) (by kernel_rfl) (by kernel_rfl) (by kernel_rfl) (fun _ _ _ h => h) (Or.inr ⟨by rfl, rfl⟩) hx4 ?_
        try simp only [Act.put, List.setIfInBounds_toArray, List.set_cons_zero, List.set_cons_succ]
        refine rtake_10 (v := undef) (by kernel_rfl) (by kernel_rfl) (by kernel_rfl) (fun _ _ _ h => h) (Or.inr ⟨by rfl, rfl⟩) hx4 ?_
        try simp only [Act.put, List.setIfInBounds_toArray, List.set_cons_zero, List.set_cons_succ]
        refine rtake_11 (v := undef) (by kernel_rfl) (by kernel_rfl) (by kernel_rfl) (fun _ _ _ h => h) (Or.inr ⟨by rfl, rfl⟩) hx4 ?_
        try simp only [Act.put, List.setIfInBounds_toArray, List.set_cons_zero, List.set_cons_succ]
        refine rtake_12 (v := undef) (by kernel_rfl) (by kernel_rfl) (by kernel_rfl) (fun _ _ _ h => h) (Or.inr ⟨by rfl, rfl⟩) hx4 ?_
        try simp only [Act.put, List.setIfInBounds_toArray, List.set_cons_zero, List.set_cons_succ]
        refine rtake_13 (v := undef) (by kernel_rfl) (by kernel_rfl) (by kernel_rfl) (fun _ _ _ h => h) (Or.inr ⟨by rfl, rfl⟩) hx4 ?_
        try simp only [Act.put, List.setIfInBounds_toArray, List.set_cons_zero, List.set_cons_succ]
        refine rtake_14 (v := undef) (by kernel_rfl) (by kernel_rfl) (by kernel_rfl) (fun _ _ _ h => h) (Or.inr ⟨by rfl, rfl⟩) hx4 ?_
        try simp only [Act.put, List.setIfInBounds_toArray, List.set_cons_zero, List.set_cons_succ]
        refine rtake_15 (v := undef) (by kernel_rfl) (by kernel_rfl) (by kernel_rfl) (fun _ _ _ h => h) (Or.inr ⟨by rfl, rfl⟩) hx4 ?_
        try simp only [Act.put, List.setIfInBounds_toArray, List.set_cons_zero, List.set_cons_succ]
        refine rtake_16 (v := undef) (by kernel_rfl) (by kernel_rfl) (by kernel_rfl) (fun _ _ _ h => h) (Or.inr ⟨by rfl, rfl⟩) hx4 ?_
        try simp only [Act.put, List.setIfInBounds_toArray, List.set_cons_zero, List.set_cons_succ]
        refine rtake_17 (v := ?vv24) (by kernel_rfl) (by kernel_rfl) (by kernel_rfl) (fun _ _ _ h => h) (Or.inl ⟨by rfl, ?hy24⟩) hx4 ?_
        case hy24 =>
          intro wX hSw
          go_simp
          try with_reducible rfl
        try simp only [Act.put, List.setIfInBounds_toArray, List.set_cons_zero, List.set_cons_succ]
        refine rtake_18 (v := ?vv25) (by kernel_rfl) (by kernel_rfl) (by kernel_rfl) (fun _ _ _ h => h) (Or.inl ⟨by rfl, ?hy25⟩) hx4 ?_
        case hy25 =>
          intro wX hSw
          go_simp
          try with_reducible rfl
        try simp only [Act.put, List.setIfInBounds_toArray, List.set_cons_zero, List.set_cons_succ]
        refine wpAnyH_done (by kernel_rfl) ?_ _
        have hb4 := hb1.trans (hx4.mono hb1.size)
        have HN : Hid (v = 7) := by show v = 7; rw [HVV.out, HOK2.out]; rfl
        go_wp2_with fail
        go_ret
        exact ⟨by rw [HN.out]; rfl, hb4⟩
    have n1 := Lib.hid hk
    clear hk
    by_cases hk : m.k = 3
    · have e1 : (m.k == 1) = false := by simp [hk]
      have e3 : (m.k == 3) = true := by simp [hk]
      have e4 : (m.k == 4) = false := by simp [hk]
      have e6 : (m.k == 6) = false := by simp [hk]
      have e2 : (m.k == 2) = false := by simp [hk]
      have e5 : (m.k == 5) = false := by simp [hk]
      have HOK : Hid (okR L S l m = (decide (((findB L (batBytes m.ba m.bn m.L) : Nat) : Int) = m.d) && byB S l m.ba m.d)) := by show okR L S l m = _; unfold okR; simp [hk]
      have hbt : batB m.ba m.bn m.L = true := by have h := HFO.out; unfold formB at h; rw [if_pos (.inr hk)] at h; simp only [Bool.and_eq_true] at h; exact h.2.1
      have HBT := Lib.hid hbt
      have hsm := bytes_small hbt
      obtain ⟨bs, hbs⟩ : ∃ bs, bs = batBytes m.ba m.bn m.L := ⟨_, rfl⟩
      rw [← hbs] at hsm HOK
      obtain ⟨nb, hnb⟩ : ∃ nb, bs.length = nb := ⟨_, rfl⟩
      rw [hnb] at hsm
      have HNB := Lib.hid hnb
      have HBS := Lib.hid hbs
      obtain ⟨fd, hfd⟩ : ∃ fd, findB L bs = fd := ⟨_, rfl⟩
      rw [hfd] at HOK
      have HFD := Lib.hid hfd
      clear hk hbt hnb hbs hfd
      have x3 := ((HX.out _ hb2).2 3 _ rfl).1
      have x4 := ((HX.out _ hb2).2 4 _ rfl).1
      have x5 := ((HX.out _ hb2).2 5 _ rfl).1
      have x6 := ((HX.out _ hb2).2 6 _ rfl).1
      by_cases hfe : ((fd : Nat) : Int) = m.d
      · have j1 : (((fd : Nat) : Int) == m.d) = true := by simp [hfe]
        have HOK2 : Hid (okR L S l m = byB S l m.ba m.d) := by show okR L S l m = _; rw [HOK.out, decide_eq_true hfe, Bool.true_and]
        have HFE := Lib.hid hfe
        clear hfe
        go_upto_region 8 with fail
        clear x3 x4 x5 x6
        have hxd : Below w1.heap.size w1 w2.drew := hb2.drew
        refine wp_region_held_drew (S := fun w' => Below w1.heap.size w1 w') (by kernel_rfl) hxd (fun _ => ?_)
        refine rtake_0 (v := ?vv26) (by kernel_rfl) (by kernel_rfl) (by kernel_rfl) (fun _ _ _ h => h) (Or.inl ⟨by rfl, ?hy26⟩) hxd ?_
        case hy26 =>
          intro wX hSw
          have x3 := ((HX.out _ hSw).2 3 _ rfl).1
          have x4 := ((HX.out _ hSw).2 4 _ rfl).1
          have x5 := ((HX.out _ hSw).2 5 _ rfl).1
          have x6 := ((HX.out _ hSw).2 6 _ rfl).1
          go_simp
          try with_reducible rfl
        try simp only [Act.put, List.setIfInBounds_toArray, List.set_cons_zero, List.set_cons_succ]
        refine rtake_1 (v := ?vv27) (by kernel_rfl) (by kernel_rfl) (by kernel_rfl) (fun _ _ _ h => h) (Or.inl ⟨by rfl, ?hy27⟩) hxd ?_
        case hy27 =>
          intro wX hSw
          have x3 := ((HX.out _ hSw).2 3 _ rfl).1
          have x4 := ((HX.out _ hSw).2 4 _ rfl).1
          have x5 := ((HX.out _ hSw).2 5 _ rfl).1
          have x6 := ((HX.out _ hSw).2 6 _ rfl).1
          go_simp
          try with_reducible rfl
        try simp only [Act.put, List.setIfInBounds_toArray, List.set_cons_zero, List.set_cons_succ]
        refine rtake_2 (v := ?vv28) (by kernel_rfl) (by kernel_rfl) (by kernel_rfl) (fun _ _ _ h => h) (Or.inl ⟨by rfl, ?hy28⟩) hxd ?_
        case hy28 =>
          intro wX hSw
          have x3 := ((HX.out _ hSw).2 3 _ rfl).1
          have x4 := ((HX.out _ hSw).2 4 _ rfl).1
          have x5 := ((HX.out _ hSw).2 5 _ rfl).1
          have x6 := ((HX.out _ hSw).2 6 _ rfl).1
          go_simp
          try with_reducible rfl
        try simp only [Act.put, List.setIfInBounds_toArray, List.set_cons_zero, List.set_cons_succ]
        refine rtake_5 (v := ?vv29) (by kernel_rfl) (by kernel_rfl) (by kernel_rfl) (fun _ _ _ h => h) (Or.inl ⟨by rfl, ?hy29⟩) hxd ?_
        case hy29 =>
          intro wX hSw
          have x3 := ((HX.out _ hSw).2 3 _ rfl).1
          have x4 := ((HX.out _ hSw).2 4 _ rfl).1
          have x5 := ((HX.out _ hSw).2 5 _ rfl).1
          have x6 := ((HX.out _ hSw).2 6 _ rfl).1
          go_simp
          try with_reducible rfl
        try simp only [Act.put, List.setIfInBounds_toArray, List.set_cons_zero, List.set_cons_succ]
        refine rtake_6 (v := ?vv30) (by kernel_rfl) (by kernel_rfl) (by kernel_rfl) (fun _ _ _ h => h) (Or.inl ⟨by rfl, ?hy30⟩) hxd ?_
        case hy30 =>
          intro wX hSw
          have x3 := ((HX.out _ hSw).2 3 _ rfl).1
          have x4 := ((HX.out _ hSw).2 4 _ rfl).1
          have x5 := ((HX.out _ hSw).2 5 _ rfl).1
          have x6 := ((HX.out _ hSw).2 6 _ rfl).1
          go_simp
          try with_reducible rfl
        try simp only [Act.put, List.setIfInBounds_toArray, List.set_cons_zero, List.set_cons_succ]
        refine rready_3 (by kernel_rfl) ?_
        intro K hK
        rw [if_pos (by rfl)]
        try go_simp
        have qi := HI.out _ hxd
        refine (rbytes_any m.ba m.bn a.AL a.cL a.nL m.L _ HBT.out qi.zL (by first | exact qi.rL | exact (HI.out _ hb2).rL) qi.kL).mono ?_
        rintro e w3 ⟨v3, rfl, ho3, hq3⟩
        rw [← HBS.out] at ho3
        have ho3b := own_cast ho3 ((u8s_length _).trans HNB.out)
        obtain ⟨A3, c3, rfl, hc3, hm3, hr3, _, hl3⟩ := own_val ho3b
        clear hl3 ho3 ho3b
        have hx3 : Below w1.heap.size w1 w3 := (by first | exact hb2.trans (hq3.mono hb2.size) | exact hb2.drew.trans (hq3.mono hb2.size))
        refine hK.out _ _ hx3 (fun _ => ?_)
        clear hK K
        try simp only [Act.put, List.setIfInBounds_toArray, List.set_cons_zero, List.set_cons_succ]
        refine rready_4 (by kernel_rfl) ?_
        intro K hK
        rw [if_pos (by rfl)]
        try go_simp
        refine (rfind_any g L S A3 c3 nb bs _ (HR.out _ hx3) HNB.out hr3 (by omega) hL HS.out).mono ?_
        rintro e w4 ⟨rfl, d4, hw4⟩
        rw [HFD.out]
        have hx4 : Below w1.heap.size w1 w4 := hw4 ▸ below_n hx3 d4
        clear hw4
        refine hK.out _ _ hx4 (fun _ => ?_)
        clear hK K
        try simp only [Act.put, List.setIfInBounds_toArray, List.set_cons_zero, List.set_cons_succ]
        refine rtake_7 (v := ?vv31) (by kernel_rfl) (by kernel_rfl) (by kernel_rfl) (fun _ _ _ h => h) (Or.inl ⟨by rfl, ?hy31⟩) hx4 ?_
        case hy31 =>
          intro wX hSw
          go_simp
          try with_reducible rfl
        try simp only [Act.put, List.setIfInBounds_toArray, List.set_cons_zero, List.set_cons_succ]
        refine rtake_8 (v := ?vv32) (by kernel_rfl) (by kernel_rfl) (by kernel_rfl) (fun _ _ _ h => h) (Or.inl ⟨by rfl, ?hy32⟩) hx4 ?_
        case hy32 =>
          intro wX hSw
          go_simp
          try with_reducible rfl
        try simp only [Act.put, List.setIfInBounds_toArray, List.set_cons_zero, List.set_cons_succ]
        refine rtake_9 (v := ?vv33) (by kernel_rfl) (by kernel_rfl) (by kernel_rfl) (fun _ _ _ h => h) (Or.inl ⟨by rfl, ?hy33⟩) hx4 ?_
        case hy33 =>
          intro wX hSw
          have x3 := ((HX.out _ hSw).2 3 _ rfl).1
          have x4 := ((HX.out _ hSw).2 4 _ rfl).1
          have x5 := ((HX.out _ hSw).2 5 _ rfl).1
          have x6 := ((HX.out _ hSw).2 6 _ rfl).1
          go_simp
          try with_reducible rfl
        try simp only [Act.put, List.setIfInBounds_toArray, List.set_cons_zero, List.set_cons_succ]
        refine rtake_10 (v := ?vv34) (by kernel_rfl) (by kernel_rfl) (by kernel_rfl) (fun _ _ _ h => h) (Or.inl ⟨by rfl, ?hy34⟩) hx4 ?_
        case hy34 =>
          intro wX hSw
          have x3 := ((HX.out _ hSw).2 3 _ rfl).1
          have x4 := ((HX.out _ hSw).2 4 _ rfl).1
          have x5 := ((HX.out _ hSw).2 5 _ rfl).1
          have x6 := ((HX.out _ hSw).2 6 _ rfl).1
          go_simp
          try with_reducible rfl
        try simp only [Act.put, List.setIfInBounds_toArray, List.set_cons_zero, List.set_cons_succ]
        refine rtake_11 (v := ?vv35) (by kernel_rfl) (by kernel_rfl) (by kernel_rfl) (fun _ _ _ h => h) (Or.inl ⟨by rfl, ?hy35⟩) hx4 ?_
        case hy35 =>
          intro wX hSw
          have x3 := ((HX.out _ hSw).2 3 _ rfl).1
          have x4 := ((HX.out _ hSw).2 4 _ rfl).1
          have x5 := ((HX.out _ hSw).2 5 _ rfl).1
          have x6 := ((HX.out _ hSw).2 6 _ rfl).1
          go_simp
          try with_reducible rfl
        try simp only [Act.put, List.setIfInBounds_toArray, List.set_cons_zero, List.set_cons_succ]
        refine rtake_12 (v := ?vv36) (by kernel_rfl) (by kernel_rfl) (by kernel_rfl) (fun _ _ _ h => h) (Or.inl ⟨by rfl, ?hy36⟩) hx4 ?_
        case hy36 =>
          intro wX hSw
          have x3 := ((HX.out _ hSw).2 3 _ rfl).1
          have x4 := ((HX.out _ hSw).2 4 _ rfl).1
          have x5 := ((HX.out _ hSw).2 5 _ rfl).1
          have x6 := ((HX.out _ hSw).2 6 _ rfl).1
          go_simp
          try with_reducible rfl
        try simp only [Act.put, List.setIfInBounds_toArray, List.set_cons_zero, List.set_cons_succ]
        refine rtake_13 (v := ?vv37) (by kernel_rfl) (by kernel_rfl) (by kernel_rfl) (fun _ _ _ h => h) (Or.inl ⟨by rfl, ?hy37⟩) hx4 ?_
        case hy37 =>
          intro wX hSw
          have x3 := ((HX.out _ hSw).2 3 _ rfl).1
          have x4 := ((HX.out _ hSw).2 4 _ rfl).1
          have x5 := ((HX.out _ hSw).2 5 _ rfl).1
          have x6 := ((HX.out _ hSw).2 6 _ rfl).1
          go_simp
          try with_reducible rfl
        try simp only [Act.put, List.setIfInBounds_toArray, List.set_cons_zero, List.set_cons_succ]
        refine rtake_14 (v := ?vv38) (by kernel_rfl) (by kernel_rfl) (by kernel_rfl) (fun _ _ _ h => h) (Or.inl ⟨by rfl, ?hy38⟩) hx4 ?_
        case hy38 =>
          intro wX hSw
          have x3 := ((HX.out _ hSw).2 3 _ rfl).1
          have x4 := ((HX.out _ hSw).2 4 _ rfl).1
          have x5 := ((HX.out _ hSw).2 5 _ rfl).1
          have x6 := ((HX.out _ hSw).2 6 _ rfl).1
          go_simp
          try with_reducible rfl
        try simp only [Act.put, List.setIfInBounds_toArray, List.set_cons_zero, List.set_cons_succ]
        refine rtake_15 (v := ?vv39) (by kernel_rfl) (by kernel_rfl) (by kernel_rfl) (fun _ _ _ h => h) (Or.inl ⟨by rfl, ?hy39⟩) hx4 ?_
        case hy39 =>
          intro wX hSw
          have x3 := ((HX.out _ hSw).2 3 _ rfl).1
          have x4 := ((HX.out _ hSw).2 4 _ rfl).1
          have x5 := ((HX.out _ hSw).2 5 _ rfl).1
          have x6 := ((HX.out _ hSw).2 6 _ rfl).1
          go_simp
          try with_reducible rfl
        try simp only [Act.put, List.setIfInBounds_toArray, List.set_cons_zero, List.set_cons_succ]
        refine rready_16 (by kernel_rfl) ?_
        intro K hK
        rw [if_pos (by rfl)]
        try go_simp
        refine (rby_is (byB S l m.ba m.d) g L S A c nl l m.ba m.d _ (HR.out _ hx4) rfl HZ.out (HLI.out _ hx4) hnl hS).mono ?_
        rintro e w5 ⟨rfl, hw5⟩
        have hx5 : Below w1.heap.size w1 w5 := by rw [← hw5]; exact hx4
        clear hw5
        refine hK.out _ _ hx5 (fun _ => ?_)
        clear hK K
        try simp only [Act.put, List.setIfInBounds_toArray, List.set_cons_zero, List.set_cons_succ]
        refine rtake_17 (v := ?vv40) (by kernel_rfl) (by kernel_rfl) (by kernel_rfl) (fun _ _ _ h => h) (Or.inl ⟨by rfl, ?hy40⟩) hx5 ?_
        case hy40 =>
          intro wX hSw
          go_simp
          try with_reducible rfl
        try simp only [Act.put, List.setIfInBounds_toArray, List.set_cons_zero, List.set_cons_succ]
        refine rtake_18 (v := ?vv41) (by kernel_rfl) (by kernel_rfl) (by kernel_rfl) (fun _ _ _ h => h) (Or.inl ⟨by rfl, ?hy41⟩) hx5 ?_
        case hy41 =>
          intro wX hSw
          go_simp
          try with_reducible rfl
        try simp only [Act.put, List.setIfInBounds_toArray, List.set_cons_zero, List.set_cons_succ]
        refine wpAnyH_done (by kernel_rfl) ?_ _
        have hx4 := hx5
        have hb4 := hb1.trans (hx4.mono hb1.size)
        cases hby : byB S l m.ba m.d with
        | true =>
          have HN : Hid (v = 0) := by show v = 0; rw [HVV.out, HOK2.out, hby]; rfl
          clear hby
          go_wp2_with fail
          go_ret
          exact ⟨by rw [HN.out]; rfl, hb4⟩
        | false =>
          have HN : Hid (v = 7) := by show v = 7; rw [HVV.out, HOK2.out, hby]; rfl
          clear hby
          go_wp2_with fail
          go_ret
          exact ⟨by rw [HN.out]; rfl, hb4⟩
      · have j1 : (((fd : Nat) : Int) == m.d) = false := by simp [hfe]
        have HOK2 : Hid (okR L S l m = false) := by show okR L S l m = _; rw [HOK.out, decide_eq_false hfe, Bool.false_and]
        have HFE := Lib.hid hfe
        clear hfe
        go_upto_region 8 with fail
        clear x3 x4 x5 x6
        have hxd : Below w1.heap.size w1 w2.drew := hb2.drew
        refine wp_region_held_drew (S := fun w' => Below w1.heap.size w1 w') (by kernel_rfl) hxd (fun _ => ?_)
        refine rtake_0 (v := ?vv42) (by kernel_rfl) (by kernel_rfl) (by kernel_rfl) (fun _ _ _ h => h) (Or.inl ⟨by rfl, ?hy42⟩) hxd ?_
        case hy42 =>
          intro wX hSw
          have x3 := ((HX.out _ hSw).2 3 _ rfl).1
          have x4 := ((HX.out _ hSw).2 4 _ rfl).1
          have x5 := ((HX.out _ hSw).2 5 _ rfl).1
          have x6 := ((HX.out _ hSw).2 6 _ rfl).1
          go_simp
          try with_reducible rfl
        try simp only [Act.put, List.setIfInBounds_toArray, List.set_cons_zero, List.set_cons_succ]
        refine rtake_1 (v := ?vv43) (by kernel_rfl) (by kernel_rfl) (by kernel_rfl) (fun _ _ _ h => h) (Or.inl ⟨by rfl, ?hy43⟩) hxd ?_
        case hy43 =>
          intro wX hSw
          have x3 := ((HX.out _ hSw).2 3 _ rfl).1
          have x4 := ((HX.out _ hSw).2 4 _ rfl).1
          have x5 := ((HX.out _ hSw).2 5 _ rfl).1
          have x6 := ((HX.out _ hSw).2 6 _ rfl).1
          go_simp
          try with_reducible rfl
        try simp only [Act.put, List.setIfInBounds_toArray, List.set_cons_zero, List.set_cons_succ]
        refine rtake_2 (v := ?vv44) (by kernel_rfl) (by kernel_rfl) (by kernel_rfl) (fun _ _ _ h => h) (Or.inl ⟨by rfl, ?hy44⟩) hxd ?_
        case hy44 =>
          intro wX hSw
          have x3 := ((HX.out _ hSw).2 3 _ rfl).1
          have x4 := ((HX.out _ hSw).2 4 _ rfl).1
          have x5 := ((HX.out _ hSw).2 5 _ rfl).1
          have x6 := ((HX.out _ hSw).2 6 _ rfl).1
          go_simp
          try with_reducible rfl
        try simp only [Act.put, List.setIfInBounds_toArray, List.set_cons_zero, List.set_cons_succ]
        refine rtake_5 (v := ?vv45) (by kernel_rfl) (by kernel_rfl) (by kernel_rfl) (fun _ _ _ h => h) (Or.inl ⟨by rfl, ?hy45⟩) hxd ?_
        case hy45 =>
          intro wX hSw
          have x3 := ((HX.out _ hSw).2 3 _ rfl).1
          have x4 := ((HX.out _ hSw).2 4 _ rfl).1
          have x5 := ((HX.out _ hSw).2 5 _ rfl).1
          have x6 := ((HX.out _ hSw).2 6 _ rfl).1
          go_simp
          try with_reducible rfl
        try simp only [Act.put, List.setIfInBounds_toArray, List.set_cons_zero, List.set_cons_succ]
        refine rtake_6 (v := ?vv46) (by kernel_rfl) (by kernel_rfl) (by kernel_rfl) (fun _ _ _ h => h) (Or.inl ⟨by rfl, ?hy46⟩) hxd ?_
        case hy46 =>
          intro wX hSw
          have x3 := ((HX.out _ hSw).2 3 _ rfl).1
          have x4 := ((HX.out _ hSw).2 4 _ rfl).1
          have x5 := ((HX.out _ hSw).2 5 _ rfl).1
          have x6 := ((HX.out _ hSw).2 6 _ rfl).1
          go_simp
          try with_reducible rfl
        try simp only [Act.put, List.setIfInBounds_toArray, List.set_cons_zero, List.set_cons_succ]
        refine rready_3 (by kernel_rfl) ?_
        intro K hK
        rw [if_pos (by rfl)]
        try go_simp
        have qi := HI.out _ hxd
        refine (rbytes_any m.ba m.bn a.AL a.cL a.nL m.L _ HBT.out qi.zL (by first | exact qi.rL | exact (HI.out _ hb2).rL) qi.kL).mono ?_
        rintro e w3 ⟨v3, rfl, ho3, hq3⟩
        rw [← HBS.out] at ho3
        have ho3b := own_cast ho3 ((u8s_length _).trans HNB.out)
        obtain ⟨A3, c3, rfl, hc3, hm3, hr3, _, hl3⟩ := own_val ho3b
        clear hl3 ho3 ho3b
        have hx3 : Below w1.heap.size w1 w3 := (by first | exact hb2.trans (hq3.mono hb2.size) | exact hb2.drew.trans (hq3.mono hb2.size))
        refine hK.out _ _ hx3 (fun _ => ?_)
        clear hK K
        try simp only [Act.put, List.setIfInBounds_toArray, List.set_cons_zero, List.set_cons_succ]
        refine rready_4 (by kernel_rfl) ?_
        intro K hK
        rw [if_pos (by rfl)]
        try go_simp
        refine (rfind_any g L S A3 c3 nb bs _ (HR.out _ hx3) HNB.out hr3 (by omega) hL HS.out).mono ?_
        rintro e w4 ⟨rfl, d4, hw4⟩
        rw [HFD.out]
        have hx4 : Below w1.heap.size w1 w4 := hw4 ▸ below_n hx3 d4
        clear hw4
        refine hK.out _ _ hx4 (fun _ => ?_)
        clear hK K
        try simp only [Act.put, List.setIfInBounds_toArray, List.set_cons_zero, List.set_cons_succ]
        refine rtake_7 (v := ?vv47) (by kernel_rfl) (by kernel_rfl) (by kernel_rfl) (fun _ _ _ h => h) (Or.inl ⟨by rfl, ?hy47⟩) hx4 ?_
        case hy47 =>
          intro wX hSw
          go_simp
          try with_reducible rfl
        try simp only [Act.put, List.setIfInBounds_toArray, List.set_cons_zero, List.set_cons_succ]
        refine rtake_8 (v := ?vv48) (by kernel_rfl) (by kernel_rfl) (by kernel_rfl) (fun _ _ _ h => h) (Or.inl ⟨by rfl, ?hy48⟩) hx4 ?_
        case hy48 =>
          intro wX hSw
          go_simp
          try with_reducible rfl
        try simp only [Act.put, List.setIfInBounds_toArray, List.set_cons_zero, List.set_cons_succ]
        refine rtake_9 (v := undef) (by kernel_rfl) (by kernel_rfl) (by kernel_rfl) (fun _ _ _ h => h) (Or.inr ⟨by rfl, rfl⟩) hx4 ?_
        try simp only [Act.put, List.setIfInBounds_toArray, List.set_cons_zero, List.set_cons_succ]
        refine rtake_10 (v := undef) (by kernel_rfl) (by kernel_rfl) (by kernel_rfl) (fun _ _ _ h => h) (Or.inr ⟨by rfl, rfl⟩) hx4 ?_
        try simp only [Act.put, List.setIfInBounds_toArray, List.set_cons_zero, List.set_cons_succ]
        refine rtake_11 (v := undef) (by kernel_rfl) (by kernel_rfl) (by kernel_rfl) (fun _ _ _ h => h) (Or.inr ⟨by rfl, rfl⟩) hx4 ?_
        try simp only [Act.put, List.setIfInBounds_toArray, List.set_cons_zero, List.set_cons_succ]
        refine rtake_12 (v := undef) (by kernel_rfl) (by kernel_rfl) (by kernel_rfl) (fun _ _ _ h => h) (Or.inr ⟨by rfl, rfl⟩) hx4 ?_
        try simp only [Act.put, List.setIfInBounds_toArray, List.set_cons_zero, List.set_cons_succ]
        refine rtake_13 (v := undef) (by kernel_rfl) (by kernel_rfl) (by kernel_rfl) (fun _ _ _ h => h) (Or.inr ⟨by rfl, rfl⟩) hx4 ?_
        try simp only [Act.put, List.setIfInBounds_toArray, List.set_cons_zero, List.set_cons_succ]
        refine rtake_14 (v := undef) (by kernel_rfl) (by kernel_rfl) (by kernel_rfl) (fun _ _ _ h => h) (Or.inr ⟨by rfl, rfl⟩) hx4 ?_
        try simp only [Act.put, List.setIfInBounds_toArray, List.set_cons_zero, List.set_cons_succ]
        refine rtake_15 (v := undef) (by kernel_rfl) (by kernel_rfl) (by kernel_rfl) (fun _ _ _ h => h) (Or.inr ⟨by rfl, rfl⟩) hx4 ?_
        try simp only [Act.put, List.setIfInBounds_toArray, List.set_cons_zero, List.set_cons_succ]
        refine rtake_16 (v := undef) (by kernel_rfl) (by kernel_rfl) (by kernel_rfl) (fun _ _ _ h => h) (Or.inr ⟨by rfl, rfl⟩) hx4 ?_
        try simp only [Act.put, List.setIfInBounds_toArray, List.set_cons_zero, List.set_cons_succ]
        refine rtake_17 (v := ?vv49) (by kernel_rfl) (by kernel_rfl) (by kernel_rfl) (fun _ _ _ h => h) (Or.inl ⟨by rfl, ?hy49⟩) hx4 ?_
        case hy49 =>
          intro wX hSw
          go_simp
          try with_reducible rfl
        try simp only [Act.put, List.setIfInBounds_toArray, List.set_cons_zero, List.set_cons_succ]
        refine rtake_18 (v := ?vv50) (by kernel_rfl) (by kernel_rfl) (by kernel_rfl) (fun _ _ _ h => h) (Or.inl ⟨by rfl, ?hy50⟩) hx4 ?_
        case hy50 =>
          intro wX hSw
          go_simp
          try with_reducible rfl
        try simp only [Act.put, List.setIfInBounds_toArray, List.set_cons_zero, List.set_cons_succ]
        refine wpAnyH_done (by kernel_rfl) ?_ _
        have hb4 := hb1.trans (hx4.mono hb1.size)
        have HN : Hid (v = 7) := by show v = 7; rw [HVV.out, HOK2.out]; rfl
        go_wp2_with fail
        go_ret
        exact ⟨by rw [HN.out]; rfl, hb4⟩
    have n3 := Lib.hid hk
    clear hk
    by_cases hk : m.k = 2
    · have e1 : (m.k == 1) = false := by simp [hk]
      have e3 : (m.k == 3) = false := by simp [hk]
      have e4 : (m.k == 4) = false := by simp [hk]
      have e6 : (m.k == 6) = false := by simp [hk]
      have e2 : (m.k == 2) = true := by simp [hk]
      have e5 : (m.k == 5) = false := by simp [hk]
      have HOK : Hid (okR L S l m = (decide (m.d ≤ (L.length : Int)))) := by show okR L S l m = _; unfold okR; simp [hk]
      clear hk
      obtain ⟨vL, vW, vD, es, hRB⟩ := HR.out _ hb2
      obtain ⟨nL, hnL⟩ : ∃ nL, L.length = nL := ⟨_, rfl⟩
      have hown := hRB.rL
      rw [hnL] at hown HOK
      obtain ⟨AL, cL, hvL, _, _, _, _, _⟩ := own_val hown
      have hc0 := hRB.c0
      rw [hvL] at hc0
      have hgl : g < w2.heap.size := hRB.lt _ hRB.here
      have c0 : ∀ x : Calm w2, x.val.cell? ⟨g, 0, none⟩ = some (.slice AL nL cL) := fun x => (x.ok.cell (p := ⟨g, 0, none⟩) hgl).trans hc0
      clear hRB hown hvL hnL
      have x3 : ∀ x : Calm w2, x.val.cell? ⟨w.heap.size, 3, none⟩ = some (.int .i64 m.d) := fun x => ((HX.out _ (hb2.trans (x.ok.mono hb2.size))).2 3 _ rfl).1
      by_cases hle : m.d ≤ (nL : Int)
      · have HN : Hid (v = 0) := by show v = 0; rw [HVV.out, HOK.out, decide_eq_true hle]; rfl
        go_upto_region 18 with fail
        refine wp_region_calm (by kernel_rfl) (by kernel_rfl) ?_
        repeat (go_big_quiet_step (fail))
        refine wpQuiet_nil ?_
        rintro _ ⟨x, rfl⟩
        have hb4 := hb3.trans (x.ok.mono hb3.size)
        clear c0 x3
        go_wp2_with fail
        go_ret
        exact ⟨by rw [HN.out]; rfl, hb4⟩
      · have HN : Hid (v = 7) := by show v = 7; rw [HVV.out, HOK.out, decide_eq_false hle]; rfl
        go_upto_region 18 with fail
        refine wp_region_calm (by kernel_rfl) (by kernel_rfl) ?_
        repeat (go_big_quiet_step (fail))
        refine wpQuiet_nil ?_
        rintro _ ⟨x, rfl⟩
        have hb4 := hb3.trans (x.ok.mono hb3.size)
        clear c0 x3
        go_wp2_with fail
        go_ret
        exact ⟨by rw [HN.out]; rfl, hb4⟩
    have n2 := Lib.hid hk
    clear hk
    by_cases hk : m.k = 5
    · have e1 : (m.k == 1) = false := by simp [hk]
      have e3 : (m.k == 3) = false := by simp [hk]
      have e4 : (m.k == 4) = false := by simp [hk]
      have e6 : (m.k == 6) = false := by simp [hk]
      have e2 : (m.k == 2) = false := by simp [hk]
      have e5 : (m.k == 5) = true := by simp [hk]
      have HOK : Hid (okR L S l m = (decide (m.d ≤ (L.length : Int)) && byB S l m.f m.d)) := by show okR L S l m = _; unfold okR; simp [hk]
      clear hk
      obtain ⟨vL, vW, vD, es, hRB⟩ := HR.out _ hb2
      obtain ⟨nL, hnL⟩ : ∃ nL, L.length = nL := ⟨_, rfl⟩
      have hown := hRB.rL
      rw [hnL] at hown HOK
      obtain ⟨AL, cL, hvL, _, _, _, _, _⟩ := own_val hown
      have hc0 := hRB.c0
      rw [hvL] at hc0
      have hgl : g < w2.heap.size := hRB.lt _ hRB.here
      have c0 : ∀ x : Calm w2, x.val.cell? ⟨g, 0, none⟩ = some (.slice AL nL cL) := fun x => (x.ok.cell (p := ⟨g, 0, none⟩) hgl).trans hc0
      clear hRB hown hvL hnL
      have x3 : ∀ x : Calm w2, x.val.cell? ⟨w.heap.size, 3, none⟩ = some (.int .i64 m.d) := fun x => ((HX.out _ (hb2.trans (x.ok.mono hb2.size))).2 3 _ rfl).1
      have x1 : ∀ x : Calm w2, x.val.cell? ⟨w.heap.size, 1, none⟩ = some (.int .i64 m.f) := fun x => ((HX.out _ (hb2.trans (x.ok.mono hb2.size))).2 1 _ rfl).1
      by_cases hle : m.d ≤ (nL : Int)
      · have HOK2 : Hid (okR L S l m = byB S l m.f m.d) := by show okR L S l m = _; rw [HOK.out, decide_eq_true hle, Bool.true_and]
        go_upto_region 20 with fail
        refine wp_region_calm (by kernel_rfl) (by kernel_rfl) ?_
        repeat (go_big_quiet_step (first | (go_at_call 46; exact calm_same (rby_is (byB S l m.f m.d) g L S A c nl l m.f m.d _ (HR.out _ (hb2.trans ((Calm.ok _).mono hb2.size))) rfl HZ.out (HLI.out _ (hb2.trans ((Calm.ok _).mono hb2.size))) hnl hS))))
        refine wpQuiet_nil ?_
        rintro _ ⟨x, rfl⟩
        have hb4 := hb3.trans (x.ok.mono hb3.size)
        clear c0 x3 x1
        cases hby : byB S l m.f m.d with
        | true =>
          have HN : Hid (v = 0) := by show v = 0; rw [HVV.out, HOK2.out, hby]; rfl
          clear hby
          go_wp2_with fail
          go_ret
          exact ⟨by rw [HN.out]; rfl, hb4⟩
        | false =>
          have HN : Hid (v = 7) := by show v = 7; rw [HVV.out, HOK2.out, hby]; rfl
          clear hby
          go_wp2_with fail
          go_ret
          exact ⟨by rw [HN.out]; rfl, hb4⟩
      · have HN : Hid (v = 7) := by show v = 7; rw [HVV.out, HOK.out, decide_eq_false hle, Bool.false_and]; rfl
        go_upto_region 20 with fail
        refine wp_region_calm (by kernel_rfl) (by kernel_rfl) ?_
        repeat (go_big_quiet_step (fail))
        refine wpQuiet_nil ?_
        rintro _ ⟨x, rfl⟩
        have hb4 := hb3.trans (x.ok.mono hb3.size)
        clear c0 x3 x1
        go_wp2_with fail
        go_ret
        exact ⟨by rw [HN.out]; rfl, hb4⟩
    have n5 := Lib.hid hk
    clear hk
    by_cases hk : m.k = 4
    · have e1 : (m.k == 1) = false := by simp [hk]
      have e3 : (m.k == 3) = false := by simp [hk]
      have e4 : (m.k == 4) = true := by simp [hk]
      have e6 : (m.k == 6) = false := by simp [hk]
      have e2 : (m.k == 2) = false := by simp [hk]
      have e5 : (m.k == 5) = false := by simp [hk]
      have HOK : Hid (okR L S l m = (decide (((findB L (headBytes m.ha m.hr m.hB m.hP) : Nat) : Int) = m.d) && byB S l m.f m.d)) := by show okR L S l m = _; unfold okR; simp [hk]
      have hbt : wideB m.ha m.hr m.hB m.hP = true := by have h := HFO.out; unfold formB at h; rw [if_neg (by omega), if_neg (by omega), if_pos hk] at h; simp only [Bool.and_eq_true] at h; exact hdr_wideR h.2.1
      have HBT := Lib.hid hbt
      have hsm := head_small hbt
      obtain ⟨bs, hbs⟩ : ∃ bs, bs = headBytes m.ha m.hr m.hB m.hP := ⟨_, rfl⟩
      rw [← hbs] at hsm HOK
      obtain ⟨nb, hnb⟩ : ∃ nb, bs.length = nb := ⟨_, rfl⟩
      rw [hnb] at hsm
      have HNB := Lib.hid hnb
      have HBS := Lib.hid hbs
      obtain ⟨fd, hfd⟩ : ∃ fd, findB L bs = fd := ⟨_, rfl⟩
      rw [hfd] at HOK
      have HFD := Lib.hid hfd
      clear hk hbt hnb hbs hfd
      have x1 := ((HX.out _ hb2).2 1 _ rfl).1
      have x3 := ((HX.out _ hb2).2 3 _ rfl).1
      have x7 := ((HX.out _ hb2).2 7 _ rfl).1
      have x8 := ((HX.out _ hb2).2 8 _ rfl).1
      have x9 := ((HX.out _ hb2).2 9 _ rfl).1
      have x10 := ((HX.out _ hb2).2 10 _ rfl).1
      by_cases hfe : ((fd : Nat) : Int) = m.d
      · have j1 : (((fd : Nat) : Int) == m.d) = true := by simp [hfe]
        have HOK2 : Hid (okR L S l m = byB S l m.f m.d) := by show okR L S l m = _; rw [HOK.out, decide_eq_true hfe, Bool.true_and]
        have HFE := Lib.hid hfe
        clear hfe
        go_upto_region 10 with fail
        clear x1 x3 x7 x8 x9 x10
        have hxd : Below w1.heap.size w1 w2.drew := hb2.drew
        refine wp_region_held_drew (S := fun w' => Below w1.heap.size w1 w') (by kernel_rfl) hxd (fun _ => ?_)
        refine rtake_0 (v := ?vv51) (by kernel_rfl) (by kernel_rfl) (by kernel_rfl) (fun _ _ _ h => h) (Or.inl ⟨by rfl, ?hy51⟩) hxd ?_
        case hy51 =>
          intro wX hSw
          have x1 := ((HX.out _ hSw).2 1 _ rfl).1
          have x3 := ((HX.out _ hSw).2 3 _ rfl).1
          have x7 := ((HX.out _ hSw).2 7 _ rfl).1
          have x8 := ((HX.out _ hSw).2 8 _ rfl).1
          have x9 := ((HX.out _ hSw).2 9 _ rfl).1
          have x10 := ((HX.out _ hSw).2 10 _ rfl).1
          go_simp
          try with_reducible rfl
        try simp only [Act.put, List.setIfInBounds_toArray, List.set_cons_zero, List.set_cons_succ]
        refine rtake_1 (v := ?vv52) (by kernel_rfl) (by kernel_rfl) (by kernel_rfl) (fun _ _ _ h => h) (Or.inl ⟨by rfl, ?hy52⟩) hxd ?_
        case hy52 =>
          intro wX hSw
          have x1 := ((HX.out _ hSw).2 1 _ rfl).1
          have x3 := ((HX.out _ hSw).2 3 _ rfl).1
          have x7 := ((HX.out _ hSw).2 7 _ rfl).1
          have x8 := ((HX.out _ hSw).2 8 _ rfl).1
          have x9 := ((HX.out _ hSw).2 9 _ rfl).1
          have x10 := ((HX.out _ hSw).2 10 _ rfl).1
          go_simp
          try with_reducible rfl
        try simp only [Act.put, List.setIfInBounds_toArray, List.set_cons_zero, List.set_cons_succ]
        refine rtake_2 (v := ?vv53) (by kernel_rfl) (by kernel_rfl) (by kernel_rfl) (fun _ _ _ h => h) (Or.inl ⟨by rfl, ?hy53⟩) hxd ?_
        case hy53 =>
          intro wX hSw
          have x1 := ((HX.out _ hSw).2 1 _ rfl).1
          have x3 := ((HX.out _ hSw).2 3 _ rfl).1
          have x7 := ((HX.out _ hSw).2 7 _ rfl).1
          have x8 := ((HX.out _ hSw).2 8 _ rfl).1
          have x9 := ((HX.out _ hSw).2 9 _ rfl).1
          have x10 := ((HX.out _ hSw).2 10 _ rfl).1
          go_simp
          try with_reducible rfl
        try simp only [Act.put, List.setIfInBounds_toArray, List.set_cons_zero, List.set_cons_succ]
        refine rtake_5 (v := ?vv54) (by kernel_rfl) (by kernel_rfl) (by kernel_rfl) (fun _ _ _ h => h) (Or.inl ⟨by rfl, ?hy54⟩) hxd ?_
        case hy54 =>
          intro wX hSw
          have x1 := ((HX.out _ hSw).2 1 _ rfl).1
          have x3 := ((HX.out _ hSw).2 3 _ rfl).1
          have x7 := ((HX.out _ hSw).2 7 _ rfl).1
          have x8 := ((HX.out _ hSw).2 8 _ rfl).1
          have x9 := ((HX.out _ hSw).2 9 _ rfl).1
          have x10 := ((HX.out _ hSw).2 10 _ rfl).1
          go_simp
          try with_reducible rfl
        try simp only [Act.put, List.setIfInBounds_toArray, List.set_cons_zero, List.set_cons_succ]
        refine rtake_6 (v := ?vv55) (by kernel_rfl) (by kernel_rfl) (by kernel_rfl) (fun _ _ _ h => h) (Or.inl ⟨by rfl, ?hy55⟩) hxd ?_
        case hy55 =>
          intro wX hSw
          have x1 := ((HX.out _ hSw).2 1 _ rfl).1
          have x3 := ((HX.out _ hSw).2 3 _ rfl).1
          have x7 := ((HX.out _ hSw).2 7 _ rfl).1
          have x8 := ((HX.out _ hSw).2 8 _ rfl).1
          have x9 := ((HX.out _ hSw).2 9 _ rfl).1
          have x10 := ((HX.out _ hSw).2 10 _ rfl).1
          go_simp
          try with_reducible rfl
        try simp only [Act.put, List.setIfInBounds_toArray, List.set_cons_zero, List.set_cons_succ]
        refine rready_3 (by kernel_rfl) ?_
        intro K hK
        rw [if_pos (by rfl)]
        try go_simp
        have qi := HI.out _ hxd
        refine (rheadBytes_any m.ha m.hr a.AhB a.chB a.nhB m.hB a.AhP a.chP a.nhP m.hP _ HBT.out qi.zhB (by first | exact qi.rhB | exact (HI.out _ hb2).rhB) qi.zhP (by first | exact qi.rhP | exact (HI.out _ hb2).rhP)).mono ?_
        rintro e w3 ⟨v3, rfl, ho3, hq3⟩
        rw [← HBS.out] at ho3
        have ho3b := own_cast ho3 ((u8s_length _).trans HNB.out)
        obtain ⟨A3, c3, rfl, hc3, hm3, hr3, _, hl3⟩ := own_val ho3b
        clear hl3 ho3 ho3b
        have hx3 : Below w1.heap.size w1 w3 := (by first | exact hb2.trans (hq3.mono hb2.size) | exact hb2.drew.trans (hq3.mono hb2.size))
        refine hK.out _ _ hx3 (fun _ => ?_)
        clear hK K
        try simp only [Act.put, List.setIfInBounds_toArray, List.set_cons_zero, List.set_cons_succ]
        refine rready_4 (by kernel_rfl) ?_
        intro K hK
        rw [if_pos (by rfl)]
        try go_simp
        refine (rfind_any g L S A3 c3 nb bs _ (HR.out _ hx3) HNB.out hr3 (by omega) hL HS.out).mono ?_
        rintro e w4 ⟨rfl, d4, hw4⟩
        rw [HFD.out]
        have hx4 : Below w1.heap.size w1 w4 := hw4 ▸ below_n hx3 d4
        clear hw4
        refine hK.out _ _ hx4 (fun _ => ?_)
        clear hK K
        try simp only [Act.put, List.setIfInBounds_toArray, List.set_cons_zero, List.set_cons_succ]
        refine rtake_7 (v := ?vv56) (by kernel_rfl) (by kernel_rfl) (by kernel_rfl) (fun _ _ _ h => h) (Or.inl ⟨by rfl, ?hy56⟩) hx4 ?_
        case hy56 =>
          intro wX hSw
          go_simp
          try with_reducible rfl
        try simp only [Act.put, List.setIfInBounds_toArray, List.set_cons_zero, List.set_cons_succ]
        refine rtake_8 (v := ?vv57) (by kernel_rfl) (by kernel_rfl) (by kernel_rfl) (fun _ _ _ h => h) (Or.inl ⟨by rfl, ?hy57⟩) hx4 ?_
        case hy57 =>
          intro wX hSw
          go_simp
          try with_reducible rfl
        try simp only [Act.put, List.setIfInBounds_toArray, List.set_cons_zero, List.set_cons_succ]
        refine rtake_9 (v := ?vv58) (by kernel_rfl) (by kernel_rfl) (by kernel_rfl) (fun _ _ _ h => h) (Or.inl ⟨by rfl, ?hy58⟩) hx4 ?_
        case hy58 =>
          intro wX hSw
          have x1 := ((HX.out _ hSw).2 1 _ rfl).1
          have x3 := ((HX.out _ hSw).2 3 _ rfl).1
          have x7 := ((HX.out _ hSw).2 7 _ rfl).1
          have x8 := ((HX.out _ hSw).2 8 _ rfl).1
          have x9 := ((HX.out _ hSw).2 9 _ rfl).1
          have x10 := ((HX.out _ hSw).2 10 _ rfl).1
          go_simp
          try with_reducible rfl
        try simp only [Act.put, List.setIfInBounds_toArray, List.set_cons_zero, List.set_cons_succ]
        refine rtake_10 (v := ?vv59) (by kernel_rfl) (by kernel_rfl) (by kernel_rfl) (fun _ _ _ h => h) (Or.inl ⟨by rfl, ?hy59⟩) hx4 ?_
        case hy59 =>
          intro wX hSw
          have x1 := ((HX.out _ hSw).2 1 _ rfl).1
          have x3 := ((HX.out _ hSw).2 3 _ rfl).1
          have x7 := ((HX.out _ hSw).2 7 _ rfl).1
          have x8 := ((HX.out _ hSw).2 8 _ rfl).1
          have x9 := ((HX.out _ hSw).2 9 _ rfl).1
          have x10 := ((HX.out _ hSw).2 10 _ rfl).1
          go_simp
          try with_reducible rfl
        try simp only [Act.put, List.setIfInBounds_toArray, List.set_cons_zero, List.set_cons_succ]
        refine rtake_11 (v := ?vv60) (by kernel_rfl) (by kernel_rfl) (by kernel_rfl) (fun _ _ _ h => h) (Or.inl ⟨by rfl, ?hy60⟩) hx4 ?_
        case hy60 =>
          intro wX hSw
          have x1 := ((HX.out _ hSw).2 1 _ rfl).1
          have x3 := ((HX.out _ hSw).2 3 _ rfl).1
          have x7 := ((HX.out _ hSw).2 7 _ rfl).1
          have x8 := ((HX.out _ hSw).2 8 _ rfl).1
          have x9 := ((HX.out _ hSw).2 9 _ rfl).1
          have x10 := ((HX.out _ hSw).2 10 _ rfl).1
          go_simp
          try with_reducible rfl
        try simp only [Act.put, List.setIfInBounds_toArray, List.set_cons_zero, List.set_cons_succ]
        refine rtake_12 (v := ?vv61) (by kernel_rfl) (by kernel_rfl) (by kernel_rfl) (fun _ _ _ h => h) (Or.inl ⟨by rfl, ?hy61⟩) hx4 ?_
        case hy61 =>
          intro wX hSw
          have x1 := ((HX.out _ hSw).2 1 _ rfl).1
          have x3 := ((HX.out _ hSw).2 3 _ rfl).1
          have x7 := ((HX.out _ hSw).2 7 _ rfl).1
          have x8 := ((HX.out _ hSw).2 8 _ rfl).1
          have x9 := ((HX.out _ hSw).2 9 _ rfl).1
          have x10 := ((HX.out _ hSw).2 10 _ rfl).1
          go_simp
          try with_reducible rfl
        try simp only [Act.put, List.setIfInBounds_toArray, List.set_cons_zero, List.set_cons_succ]
        refine rtake_13 (v := ?vv62) (by kernel_rfl) (by kernel_rfl) (by kernel_rfl) (fun _ _ _ h => h) (Or.inl ⟨by rfl, ?hy62⟩) hx4 ?_
        case hy62 =>
          intro wX hSw
          have x1 := ((HX.out _ hSw).2 1 _ rfl).1
          have x3 := ((HX.out _ hSw).2 3 _ rfl).1
          have x7 := ((HX.out _ hSw).2 7 _ rfl).1
          have x8 := ((HX.out _ hSw).2 8 _ rfl).1
          have x9 := ((HX.out _ hSw).2 9 _ rfl).1
          have x10 := ((HX.out _ hSw).2 10 _ rfl).1
          go_simp
          try with_reducible rfl
        try simp only [Act.put, List.setIfInBounds_toArray, List.set_cons_zero, List.set_cons_succ]
        refine rtake_14 (v := ?vv63) (by kernel_rfl) (by kernel_rfl) (by kernel_rfl) (fun _ _ _ h => h) (Or.inl ⟨by rfl, ?hy63⟩) hx4 ?_
        case hy63 =>
          intro wX hSw
          have x1 := ((HX.out _ hSw).2 1 _ rfl).1
          have x3 := ((HX.out _ hSw).2 3 _ rfl).1
          have x7 := ((HX.out _ hSw).2 7 _ rfl).1
          have x8 := ((HX.out _ hSw).2 8 _ rfl).1
          have x9 := ((HX.out _ hSw).2 9 _ rfl).1
          have x10 := ((HX.out _ hSw).2 10 _ rfl).1
          go_simp
          try with_reducible rfl
        try simp only [Act.put, List.setIfInBounds_toArray, List.set_cons_zero, List.set_cons_succ]
        refine rready_15 (by kernel_rfl) ?_
        intro K hK
        rw [if_pos (by rfl)]
        try go_simp
        refine (rby_is (byB S l m.f m.d) g L S A c nl l m.f m.d _ (HR.out _ hx4) rfl HZ.out (HLI.out _ hx4) hnl hS).mono ?_
        rintro e w5 ⟨rfl, hw5⟩
        have hx5 : Below w1.heap.size w1 w5 := by rw [← hw5]; exact hx4
        clear hw5
        refine hK.out _ _ hx5 (fun _ => ?_)
        clear hK K
        try simp only [Act.put, List.setIfInBounds_toArray, List.set_cons_zero, List.set_cons_succ]
        refine rtake_16 (v := ?vv64) (by kernel_rfl) (by kernel_rfl) (by kernel_rfl) (fun _ _ _ h => h) (Or.inl ⟨by rfl, ?hy64⟩) hx5 ?_
        case hy64 =>
          intro wX hSw
          go_simp
          try with_reducible rfl
        try simp only [Act.put, List.setIfInBounds_toArray, List.set_cons_zero, List.set_cons_succ]
        refine rtake_17 (v := ?vv65) (by kernel_rfl) (by kernel_rfl) (by kernel_rfl) (fun _ _ _ h => h) (Or.inl ⟨by rfl, ?hy65⟩) hx5 ?_
        case hy65 =>
          intro wX hSw
          go_simp
          try with_reducible rfl
        try simp only [Act.put, List.setIfInBounds_toArray, List.set_cons_zero, List.set_cons_succ]
        refine wpAnyH_done (by kernel_rfl) ?_ _
        have hx4 := hx5
        have hb4 := hb1.trans (hx4.mono hb1.size)
        cases hby : byB S l m.f m.d with
        | true =>
          have HN : Hid (v = 0) := by show v = 0; rw [HVV.out, HOK2.out, hby]; rfl
          clear hby
          go_wp2_with fail
          go_ret
          exact ⟨by rw [HN.out]; rfl, hb4⟩
        | false =>
          have HN : Hid (v = 7) := by show v = 7; rw [HVV.out, HOK2.out, hby]; rfl
          clear hby
          go_wp2_with fail
          go_ret
          exact ⟨by rw [HN.out]; rfl, hb4⟩
      · have j1 : (((fd : Nat) : Int) == m.d) = false := by simp [hfe]
        have HOK2 : Hid (okR L S l m = false) := by show okR L S l m = _; rw [HOK.out, decide_eq_false hfe, Bool.false_and]
        have HFE := Lib.hid hfe
        clear hfe
        go_upto_region 10 with fail
        clear x1 x3 x7 x8 x9 x10
        have hxd : Below w1.heap.size w1 w2.drew := hb2.drew
        refine wp_region_held_drew (S := fun w' => Below w1.heap.size w1 w') (by kernel_rfl) hxd (fun _ => ?_)
        refine rtake_0 (v := ?vv66) (by kernel_rfl) (by kernel_rfl) (by kernel_rfl) (fun _ _ _ h => h) (Or.inl ⟨by rfl, ?hy66⟩) hxd ?_
        case hy66 =>
          intro wX hSw
          have x1 := ((HX.out _ hSw).2 1 _ rfl).1
          have x3 := ((HX.out _ hSw).2 3 _ rfl).1
          have x7 := ((HX.out _ hSw).2 7 _ rfl).1
          have x8 := ((HX.out _ hSw).2 8 _ rfl).1
          have x9 := ((HX.out _ hSw).2 9 _ rfl).1
          have x10 := ((HX.out _ hSw).2 10 _ rfl).1
          go_simp
          try with_reducible rfl
        try simp only [Act.put, List.setIfInBounds_toArray, List.set_cons_zero, List.set_cons_succ]
        refine rtake_1 (v := ?vv67) (by kernel_rfl) (by kernel_rfl) (by kernel_rfl) (fun _ _ _ h => h) (Or.inl ⟨by rfl, ?hy67⟩) hxd ?_
        case hy67 =>
          intro wX hSw
          have x1 := ((HX.out _ hSw).2 1 _ rfl).1
          have x3 := ((HX.out _ hSw).2 3 _ rfl).1
          have x7 := ((HX.out _ hSw).2 7 _ rfl).1
          have x8 := ((HX.out _ hSw).2 8 _ rfl).1
          have x9 := ((HX.out _ hSw).2 9 _ rfl).1
          have x10 := ((HX.out _ hSw).2 10 _ rfl).1
          go_simp
          try with_reducible rfl
        try simp only [Act.put, List.setIfInBounds_toArray, List.set_cons_zero, List.set_cons_succ]
        refine rtake_2 (v := ?vv68) (by kernel_rfl) (by kernel_rfl) (by kernel_rfl) (fun _ _ _ h => h) (Or.inl ⟨by rfl, ?hy68⟩) hxd ?_
        case hy68 =>
          intro wX hSw
          have x1 := ((HX.out _ hSw).2 1 _ rfl).1
          have x3 := ((HX.out _ hSw).2 3 _ rfl).1
          have x7 := ((HX.out _ hSw).2 7 _ rfl).1
          have x8 := ((HX.out _ hSw).2 8 _ rfl).1
          have x9 := ((HX.out _ hSw).2 9 _ rfl).1
          have x10 := ((HX.out _ hSw).2 10 _ rfl).1
          go_simp
          try with_reducible rfl
        try simp only [Act.put, List.setIfInBounds_toArray, List.set_cons_zero, List.set_cons_succ]
        refine rtake_5 (v := ?vv69) (by kernel_rfl) (by kernel_rfl) (by kernel_rfl) (fun _ _ _ h => h) (Or.inl ⟨by rfl, ?hy69⟩) hxd ?_
        case hy69 =>
          intro wX hSw
          have x1 := ((HX.out _ hSw).2 1 _ rfl).1
          have x3 := ((HX.out _ hSw).2 3 _ rfl).1
          have x7 := ((HX.out _ hSw).2 7 _ rfl).1
          have x8 := ((HX.out _ hSw).2 8 _ rfl).1
          have x9 := ((HX.out _ hSw).2 9 _ rfl).1
          have x10 := ((HX.out _ hSw).2 10 _ rfl).1
          go_simp
          try with_reducible rfl
        try simp only [Act.put, List.setIfInBounds_toArray, List.set_cons_zero, List.set_cons_succ]
        refine rtake_6 (v := ?vv70) (by kernel_rfl) (by kernel_rfl) (by kernel_rfl) (fun _ _ _ h => h) (Or.inl ⟨by rfl, ?hy70⟩) hxd ?_
        case hy70 =>
          intro wX hSw
          have x1 := ((HX.out _ hSw).2 1 _ rfl).1
          have x3 := ((HX.out _ hSw).2 3 _ rfl).1
          have x7 := ((HX.out _ hSw).2 7 _ rfl).1
          have x8 := ((HX.out _ hSw).2 8 _ rfl).1
          have x9 := ((HX.out _ hSw).2 9 _ rfl).1
          have x10 := ((HX.out _ hSw).2 10 _ rfl).1
          go_simp
          try with_reducible rfl
        try simp only [Act.put, List.setIfInBounds_toArray, List.set_cons_zero, List.set_cons_succ]
        refine rready_3 (by kernel_rfl) ?_
        intro K hK
        rw [if_pos (by rfl)]
        try go_simp
        have qi := HI.out _ hxd
        refine (rheadBytes_any m.ha m.hr a.AhB a.chB a.nhB m.hB a.AhP a.chP a.nhP m.hP _ HBT.out qi.zhB (by first | exact qi.rhB | exact (HI.out _ hb2).rhB) qi.zhP (by first | exact qi.rhP | exact (HI.out _ hb2).rhP)).mono ?_
        rintro e w3 ⟨v3, rfl, ho3, hq3⟩
        rw [← HBS.out] at ho3
        have ho3b := own_cast ho3 ((u8s_length _).trans HNB.out)
        obtain ⟨A3, c3, rfl, hc3, hm3, hr3, _, hl3⟩ := own_val ho3b
        clear hl3 ho3 ho3b
        have hx3 : Below w1.heap.size w1 w3 := (by first | exact hb2.trans (hq3.mono hb2.size) | exact hb2.drew.trans (hq3.mono hb2.size))
        refine hK.out _ _ hx3 (fun _ => ?_)
        clear hK K
        try simp only [Act.put, List.setIfInBounds_toArray, List.set_cons_zero, List.set_cons_succ]
        refine rready_4 (by kernel_rfl) ?_
        intro K hK
        rw [if_pos (by rfl)]
        try go_simp
        refine (rfind_any g L S A3 c3 nb bs _ (HR.out _ hx3) HNB.out hr3 (by omega) hL HS.out).mono ?_
        rintro e w4 ⟨rfl, d4, hw4⟩
        rw [HFD.out]
        have hx4 : Below w1.heap.size w1 w4 := hw4 ▸ below_n hx3 d4
        clear hw4
        refine hK.out _ _ hx4 (fun _ => ?_)
        clear hK K
        try simp only [Act.put, List.setIfInBounds_toArray, List.set_cons_zero, List.set_cons_succ]
        refine rtake_7 (v := ?vv71) (by kernel_rfl) (by kernel_rfl) (by kernel_rfl) (fun _ _ _ h => h) (Or.inl ⟨by rfl, ?hy71⟩) hx4 ?_
        case hy71 =>
          intro wX hSw
          go_simp
          try with_reducible rfl
        try simp only [Act.put, List.setIfInBounds_toArray, List.set_cons_zero, List.set_cons_succ]
        refine rtake_8 (v := ?vv72) (by kernel_rfl) (by kernel_rfl) (by kernel_rfl) (fun _ _ _ h => h) (Or.inl ⟨by rfl, ?hy72⟩) hx4 ?_
        case hy72 =>
          intro wX hSw
          go_simp
          try with_reducible rfl
        try simp only [Act.put, List.setIfInBounds_toArray, List.set_cons_zero, List.set_cons_succ]
        refine rtake_9 (v := undef) (by kernel_rfl) (by kernel_rfl) (by kernel_rfl) (fun _ _ _ h => h) (Or.inr ⟨by rfl, rfl⟩) hx4 ?_
        try simp only [Act.put, List.setIfInBounds_toArray, List.set_cons_zero, List.set_cons_succ]
        refine rtake_10 (v := undef) (by kernel_rfl) (by kernel_rfl) (by kernel_rfl) (fun _ _ _ h => h) (Or.inr ⟨by rfl, rfl⟩) hx4 ?_
        try simp only [Act.put, List.setIfInBounds_toArray, List.set_cons_zero, List.set_cons_succ]
        refine rtake_11 (v := undef) (by kernel_rfl) (by kernel_rfl) (by kernel_rfl) (fun _ _ _ h => h) (Or.inr ⟨by rfl, rfl⟩) hx4 ?_
        try simp only [Act.put, List.setIfInBounds_toArray, List.set_cons_zero, List.set_cons_succ]
        refine rtake_12 (v := undef) (by kernel_rfl) (by kernel_rfl) (by kernel_rfl) (fun _ _ _ h => h) (Or.inr ⟨by rfl, rfl⟩) hx4 ?_
        try simp only [Act.put, List.setIfInBounds_toArray, List.set_cons_zero, List.set_cons_succ]
        refine rtake_13 (v := undef) (by kernel_rfl) (by kernel_rfl) (by kernel_rfl) (fun _ _ _ h => h) (Or.inr ⟨by rfl, rfl⟩) hx4 ?_
        try simp only [Act.put, List.setIfInBounds_toArray, List.set_cons_zero, List.set_cons_succ]
        refine rtake_14 (v := undef) (by kernel_rfl) (by kernel_rfl) (by kernel_rfl) (fun _ _ _ h => h) (Or.inr ⟨by rfl, rfl⟩) hx4 ?_
        try simp only [Act.put, List.setIfInBounds_toArray, List.set_cons_zero, List.set_cons_succ]
        refine rtake_15 (v := undef) (by kernel_rfl) (by kernel_rfl) (by kernel_rfl) (fun _ _ _ h => h) (Or.inr ⟨by rfl, rfl⟩) hx4 ?_
        try simp only [Act.put, List.setIfInBounds_toArray, List.set_cons_zero, List.set_cons_succ]
        refine rtake_16 (v := ?vv73) (by kernel_rfl) (by kernel_rfl) (by kernel_rfl) (fun _ _ _ h => h) (Or.inl ⟨by rfl, ?hy73⟩) hx4 ?_
        case hy73 =>
          intro wX hSw
          go_simp
          try with_reducible rfl
        try simp only [Act.put, List.setIfInBounds_toArray, List.set_cons_zero, List.set_cons_succ]
        refine rtake_17 (v := ?vv74) (by kernel_rfl) (by kernel_rfl) (by kernel_rfl) (fun _ _ _ h => h) (Or.inl ⟨by rfl, ?hy74⟩) hx4 ?_
        case hy74 =>
          intro wX hSw
          go_simp
          try with_reducible rfl
        try simp only [Act.put, List.setIfInBounds_toArray, List.set_cons_zero, List.set_cons_succ]
        refine wpAnyH_done (by kernel_rfl) ?_ _
        have hb4 := hb1.trans (hx4.mono hb1.size)
        have HN : Hid (v = 7) := by show v = 7; rw [HVV.out, HOK2.out]; rfl
        go_wp2_with fail
        go_ret
        exact ⟨by rw [HN.out]; rfl, hb4⟩
    have n4 := Lib.hid hk
    clear hk
    by_cases hk : m.k = 6
    · have e1 : (m.k == 1) = false := by simp [hk]
      have e3 : (m.k == 3) = false := by simp [hk]
      have e4 : (m.k == 4) = false := by simp [hk]
      have e6 : (m.k == 6) = true := by simp [hk]
      have e2 : (m.k == 2) = false := by simp [hk]
      have e5 : (m.k == 5) = false := by simp [hk]
      have HOK : Hid (okR L S l m = (decide (((findB L (headBytes m.ca m.cr m.cB m.cP) : Nat) : Int) = m.cd) && allBy S l m.cd m.cS)) := by show okR L S l m = _; unfold okR; simp [hk]
      have hbt : wideB m.ca m.cr m.cB m.cP = true := by have h := HFO.out; unfold formB at h; rw [if_neg (by omega), if_neg (by omega), if_neg (by omega), if_pos hk] at h; simp only [certB, decide_eq_true_eq] at h; exact hdr_wideR h.1
      have HBT := Lib.hid hbt
      have hsm := head_small hbt
      obtain ⟨bs, hbs⟩ : ∃ bs, bs = headBytes m.ca m.cr m.cB m.cP := ⟨_, rfl⟩
      rw [← hbs] at hsm HOK
      obtain ⟨nb, hnb⟩ : ∃ nb, bs.length = nb := ⟨_, rfl⟩
      rw [hnb] at hsm
      have HNB := Lib.hid hnb
      have HBS := Lib.hid hbs
      obtain ⟨fd, hfd⟩ : ∃ fd, findB L bs = fd := ⟨_, rfl⟩
      rw [hfd] at HOK
      have HFD := Lib.hid hfd
      clear hk hbt hnb hbs hfd
      have x11 := ((HX.out _ hb2).2 11 _ rfl).1
      have x12 := ((HX.out _ hb2).2 12 _ rfl).1
      have x13 := ((HX.out _ hb2).2 13 _ rfl).1
      have x14 := ((HX.out _ hb2).2 14 _ rfl).1
      have x15 := ((HX.out _ hb2).2 15 _ rfl).1
      by_cases hfe : ((fd : Nat) : Int) = m.cd
      · have j1 : (((fd : Nat) : Int) == m.cd) = true := by simp [hfe]
        have HOK2 : Hid (okR L S l m = allBy S l m.cd m.cS) := by show okR L S l m = _; rw [HOK.out, decide_eq_true hfe, Bool.true_and]
        have HFE := Lib.hid hfe
        clear hfe
        go_upto_region 12 with fail
        clear x11 x12 x13 x14 x15
        have hxd : Below w1.heap.size w1 w2.drew := hb2.drew
        refine wp_region_held_drew (S := fun w' => Below w1.heap.size w1 w') (by kernel_rfl) hxd (fun _ => ?_)
        refine rtake_0 (v := ?vv75) (by kernel_rfl) (by kernel_rfl) (by kernel_rfl) (fun _ _ _ h => h) (Or.inl ⟨by rfl, ?hy75⟩) hxd ?_
        case hy75 =>
          intro wX hSw
          have x11 := ((HX.out _ hSw).2 11 _ rfl).1
          have x12 := ((HX.out _ hSw).2 12 _ rfl).1
          have x13 := ((HX.out _ hSw).2 13 _ rfl).1
          have x14 := ((HX.out _ hSw).2 14 _ rfl).1
          have x15 := ((HX.out _ hSw).2 15 _ rfl).1
          go_simp
          try with_reducible rfl
        try simp only [Act.put, List.setIfInBounds_toArray, List.set_cons_zero, List.set_cons_succ]
        refine rtake_1 (v := ?vv76) (by kernel_rfl) (by kernel_rfl) (by kernel_rfl) (fun _ _ _ h => h) (Or.inl ⟨by rfl, ?hy76⟩) hxd ?_
        case hy76 =>
          intro wX hSw
          have x11 := ((HX.out _ hSw).2 11 _ rfl).1
          have x12 := ((HX.out _ hSw).2 12 _ rfl).1
          have x13 := ((HX.out _ hSw).2 13 _ rfl).1
          have x14 := ((HX.out _ hSw).2 14 _ rfl).1
          have x15 := ((HX.out _ hSw).2 15 _ rfl).1
          go_simp
          try with_reducible rfl
        try simp only [Act.put, List.setIfInBounds_toArray, List.set_cons_zero, List.set_cons_succ]
        refine rtake_2 (v := ?vv77) (by kernel_rfl) (by kernel_rfl) (by kernel_rfl) (fun _ _ _ h => h) (Or.inl ⟨by rfl, ?hy77⟩) hxd ?_
        case hy77 =>
          intro wX hSw
          have x11 := ((HX.out _ hSw).2 11 _ rfl).1
          have x12 := ((HX.out _ hSw).2 12 _ rfl).1
          have x13 := ((HX.out _ hSw).2 13 _ rfl).1
          have x14 := ((HX.out _ hSw).2 14 _ rfl).1
          have x15 := ((HX.out _ hSw).2 15 _ rfl).1
          go_simp
          try with_reducible rfl
        try simp only [Act.put, List.setIfInBounds_toArray, List.set_cons_zero, List.set_cons_succ]
        refine rtake_3 (v := ?vv78) (by kernel_rfl) (by kernel_rfl) (by kernel_rfl) (fun _ _ _ h => h) (Or.inl ⟨by rfl, ?hy78⟩) hxd ?_
        case hy78 =>
          intro wX hSw
          have x11 := ((HX.out _ hSw).2 11 _ rfl).1
          have x12 := ((HX.out _ hSw).2 12 _ rfl).1
          have x13 := ((HX.out _ hSw).2 13 _ rfl).1
          have x14 := ((HX.out _ hSw).2 14 _ rfl).1
          have x15 := ((HX.out _ hSw).2 15 _ rfl).1
          go_simp
          try with_reducible rfl
        try simp only [Act.put, List.setIfInBounds_toArray, List.set_cons_zero, List.set_cons_succ]
        refine rtake_6 (v := ?vv79) (by kernel_rfl) (by kernel_rfl) (by kernel_rfl) (fun _ _ _ h => h) (Or.inl ⟨by rfl, ?hy79⟩) hxd ?_
        case hy79 =>
          intro wX hSw
          have x11 := ((HX.out _ hSw).2 11 _ rfl).1
          have x12 := ((HX.out _ hSw).2 12 _ rfl).1
          have x13 := ((HX.out _ hSw).2 13 _ rfl).1
          have x14 := ((HX.out _ hSw).2 14 _ rfl).1
          have x15 := ((HX.out _ hSw).2 15 _ rfl).1
          go_simp
          try with_reducible rfl
        try simp only [Act.put, List.setIfInBounds_toArray, List.set_cons_zero, List.set_cons_succ]
        refine rtake_7 (v := ?vv80) (by kernel_rfl) (by kernel_rfl) (by kernel_rfl) (fun _ _ _ h => h) (Or.inl ⟨by rfl, ?hy80⟩) hxd ?_
        case hy80 =>
          intro wX hSw
          have x11 := ((HX.out _ hSw).2 11 _ rfl).1
          have x12 := ((HX.out _ hSw).2 12 _ rfl).1
          have x13 := ((HX.out _ hSw).2 13 _ rfl).1
          have x14 := ((HX.out _ hSw).2 14 _ rfl).1
          have x15 := ((HX.out _ hSw).2 15 _ rfl).1
          go_simp
          try with_reducible rfl
        try simp only [Act.put, List.setIfInBounds_toArray, List.set_cons_zero, List.set_cons_succ]
        refine rtake_8 (v := ?vv81) (by kernel_rfl) (by kernel_rfl) (by kernel_rfl) (fun _ _ _ h => h) (Or.inl ⟨by rfl, ?hy81⟩) hxd ?_
        case hy81 =>
          intro wX hSw
          have x11 := ((HX.out _ hSw).2 11 _ rfl).1
          have x12 := ((HX.out _ hSw).2 12 _ rfl).1
          have x13 := ((HX.out _ hSw).2 13 _ rfl).1
          have x14 := ((HX.out _ hSw).2 14 _ rfl).1
          have x15 := ((HX.out _ hSw).2 15 _ rfl).1
          go_simp
          try with_reducible rfl
        try simp only [Act.put, List.setIfInBounds_toArray, List.set_cons_zero, List.set_cons_succ]
        refine rready_4 (by kernel_rfl) ?_
        intro K hK
        rw [if_pos (by rfl)]
        try go_simp
        have qi := HI.out _ hxd
        refine (rheadBytes_any m.ca m.cr a.AcB a.ccB a.ncB m.cB a.AcP a.ccP a.ncP m.cP _ HBT.out qi.zcB (by first | exact qi.rcB | exact (HI.out _ hb2).rcB) qi.zcP (by first | exact qi.rcP | exact (HI.out _ hb2).rcP)).mono ?_
        rintro e w3 ⟨v3, rfl, ho3, hq3⟩
        rw [← HBS.out] at ho3
        have ho3b := own_cast ho3 ((u8s_length _).trans HNB.out)
        obtain ⟨A3, c3, rfl, hc3, hm3, hr3, _, hl3⟩ := own_val ho3b
        clear hl3 ho3 ho3b
        have hx3 : Below w1.heap.size w1 w3 := (by first | exact hb2.trans (hq3.mono hb2.size) | exact hb2.drew.trans (hq3.mono hb2.size))
        refine hK.out _ _ hx3 (fun _ => ?_)
        clear hK K
        try simp only [Act.put, List.setIfInBounds_toArray, List.set_cons_zero, List.set_cons_succ]
        refine rready_5 (by kernel_rfl) ?_
        intro K hK
        rw [if_pos (by rfl)]
        try go_simp
        refine (rfind_any g L S A3 c3 nb bs _ (HR.out _ hx3) HNB.out hr3 (by omega) hL HS.out).mono ?_
        rintro e w4 ⟨rfl, d4, hw4⟩
        rw [HFD.out]
        have hx4 : Below w1.heap.size w1 w4 := hw4 ▸ below_n hx3 d4
        clear hw4
        refine hK.out _ _ hx4 (fun _ => ?_)
        clear hK K
        try simp only [Act.put, List.setIfInBounds_toArray, List.set_cons_zero, List.set_cons_succ]
        refine rtake_9 (v := ?vv82) (by kernel_rfl) (by kernel_rfl) (by kernel_rfl) (fun _ _ _ h => h) (Or.inl ⟨by rfl, ?hy82⟩) hx4 ?_
        case hy82 =>
          intro wX hSw
          go_simp
          try with_reducible rfl
        try simp only [Act.put, List.setIfInBounds_toArray, List.set_cons_zero, List.set_cons_succ]
        refine rtake_10 (v := ?vv83) (by kernel_rfl) (by kernel_rfl) (by kernel_rfl) (fun _ _ _ h => h) (Or.inl ⟨by rfl, ?hy83⟩) hx4 ?_
        case hy83 =>
          intro wX hSw
          go_simp
          try with_reducible rfl
        try simp only [Act.put, List.setIfInBounds_toArray, List.set_cons_zero, List.set_cons_succ]
        refine wpAnyH_done (by kernel_rfl) ?_ _
        have qi := HI.out _ hx4
        obtain ⟨nS, hnS⟩ : ∃ nS, a.ncS = nS := ⟨_, rfl⟩
        have HNS : Hid (m.cS.length = nS) := by show _ = nS; rw [← hnS]; exact qi.zcS
        have HX16 : Hid (∀ wX, Below w1.heap.size w1 wX → wX.cell? ⟨w.heap.size, 16, none⟩ = some (.slice a.AcS nS a.ccS) ∧ wX.cell? ⟨w.heap.size, 15, none⟩ = some (.int .i64 m.cd)) := fun wX h => ⟨by have := ((HX.out _ h).2 16 _ rfl).1; rw [hnS] at this; exact this, ((HX.out _ h).2 15 _ rfl).1⟩
        have hnS16 : nS ≤ 1000000 := by have := HF.out.scS; omega
        clear qi hnS
        go_wp2_with fail
        go_loopw [9, 10] (fun ok i wr => ∃ k : Nat, i = .int .i64 k ∧ k ≤ nS ∧ Hid (ok = .bool (allBy S l m.cd (m.cS.take k))) ∧ Below w1.heap.size w1 wr) (fun _ i _ => nS - (intOf i).toNat)
        case atStart => exact ⟨0, rfl, by omega, by first | rfl | simp [allBy], hx4⟩
        case round =>
          obtain ⟨k, rfl, hk, HOKK, hxr⟩ := hrel
          have hbr := hb1.trans (hxr.mono hb1.size)
          obtain ⟨c16, c15⟩ := HX16.out _ hxr
          by_cases hlt : k < nS
          · have i0 : (0 : Int) ≤ (k : Int) := by omega
            have i1 : (k : Int) < (nS : Int) := by omega
            have hnx := allBy_next (S := S) (l := l) (d := m.cd) (c := m.cS) (k := k) (by rw [HNS.out]; exact hlt)
            have HNX := Lib.hid hnx
            clear hnx
            obtain ⟨y, hy⟩ : ∃ y, y = m.cS[k]?.getD 0 := ⟨_, rfl⟩
            obtain ⟨bS, oS, hAS, hbS, hcS⟩ := (HI.out _ hxr).rcS.open_ (by rw [i64s_length, HNS.out]; omega)
            have hc1 := hcS k _ (i64s_at (by rw [HNS.out]; exact hlt))
            rw [← hy] at hc1 HNX
            rw [hAS] at HX16 c16
            have HCS : Hid (∀ x : Calm wr, x.val.cell? ⟨bS, oS + k, none⟩ = some (.int .i64 y)) := fun x => (x.ok.cell (p := ⟨bS, oS + k, none⟩) hbS).trans hc1
            clear hy hcS hc1 hAS
            go_wp2_with fail
            cases hall : allBy S l m.cd (m.cS.take k) with
            | true =>
              rw [hall] at HOKK HNX
              have ho := HOKK.out
              subst ho
              have c16 : ∀ x : Calm wr, x.val.cell? ⟨w.heap.size, 16, none⟩ = some (.slice (some ⟨bS, oS, none⟩) nS a.ccS) := fun x => (HX16.out _ (hxr.trans (x.ok.mono hxr.size))).1
              have c15 : ∀ x : Calm wr, x.val.cell? ⟨w.heap.size, 15, none⟩ = some (.int .i64 m.cd) := fun x => (HX16.out _ (hxr.trans (x.ok.mono hxr.size))).2
              have cS := HCS.out
              refine wp_region_calm (by kernel_rfl) (by kernel_rfl) ?_
              repeat (go_big_quiet_step (first | (go_at_call 46; exact calm_same (rby_is (byB S l y m.cd) g L S A c nl l y m.cd _ (HR.out _ (hxr.trans ((Calm.ok _).mono hxr.size))) rfl HZ.out (HLI.out _ (hxr.trans ((Calm.ok _).mono hxr.size))) hnl hS))))
              refine wpQuiet_nil ?_
              rintro _ ⟨x, rfl⟩
              clear c16 c15 cS
              go_wp2_with fail
              go_roundw
              case rel => exact ⟨k + 1, by go_num, by omega, by rw [HNX.out]; first | rfl | simp, hxr.trans (x.ok.mono hxr.size)⟩
              case measure => simp [intOf]; omega
            | false =>
              rw [hall] at HOKK HNX
              have ho := HOKK.out
              subst ho
              have c16 : ∀ x : Calm wr, x.val.cell? ⟨w.heap.size, 16, none⟩ = some (.slice (some ⟨bS, oS, none⟩) nS a.ccS) := fun x => (HX16.out _ (hxr.trans (x.ok.mono hxr.size))).1
              have c15 : ∀ x : Calm wr, x.val.cell? ⟨w.heap.size, 15, none⟩ = some (.int .i64 m.cd) := fun x => (HX16.out _ (hxr.trans (x.ok.mono hxr.size))).2
              have cS := HCS.out
              refine wp_region_calm (by kernel_rfl) (by kernel_rfl) ?_
              repeat (go_big_quiet_step (first | (go_at_call 46; exact calm_same (rby_is (byB S l y m.cd) g L S A c nl l y m.cd _ (HR.out _ (hxr.trans ((Calm.ok _).mono hxr.size))) rfl HZ.out (HLI.out _ (hxr.trans ((Calm.ok _).mono hxr.size))) hnl hS))))
              refine wpQuiet_nil ?_
              rintro _ ⟨x, rfl⟩
              clear c16 c15 cS
              go_wp2_with fail
              go_roundw
              case rel => exact ⟨k + 1, by go_num, by omega, by rw [HNX.out]; first | rfl | simp, hxr.trans (x.ok.mono hxr.size)⟩
              case measure => simp [intOf]; omega
          · have i1 : ¬ ((k : Int) < (nS : Int)) := by omega
            have ho := HOKK.out
            rw [List.take_of_length_le (by rw [HNS.out]; omega)] at ho
            subst ho
            cases hall : allBy S l m.cd m.cS with
            | true =>
              have HN : Hid (v = 0) := by show v = 0; rw [HVV.out, HOK2.out, hall]; rfl
              clear hall
              go_wp2_with fail
              go_ret
              exact ⟨by rw [HN.out]; rfl, hbr⟩
            | false =>
              have HN : Hid (v = 7) := by show v = 7; rw [HVV.out, HOK2.out, hall]; rfl
              clear hall
              go_wp2_with fail
              go_ret
              exact ⟨by rw [HN.out]; rfl, hbr⟩
      · have j1 : (((fd : Nat) : Int) == m.cd) = false := by simp [hfe]
        have HOK2 : Hid (okR L S l m = false) := by show okR L S l m = _; rw [HOK.out, decide_eq_false hfe, Bool.false_and]
        have HFE := Lib.hid hfe
        clear hfe
        go_upto_region 12 with fail
        clear x11 x12 x13 x14 x15
        have hxd : Below w1.heap.size w1 w2.drew := hb2.drew
        refine wp_region_held_drew (S := fun w' => Below w1.heap.size w1 w') (by kernel_rfl) hxd (fun _ => ?_)
        refine rtake_0 (v := ?vv84) (by kernel_rfl) (by kernel_rfl) (by kernel_rfl) (fun _ _ _ h => h) (Or.inl ⟨by rfl, ?hy84⟩) hxd ?_
        case hy84 =>
          intro wX hSw
          have x11 := ((HX.out _ hSw).2 11 _ rfl).1
          have x12 := ((HX.out _ hSw).2 12 _ rfl).1
          have x13 := ((HX.out _ hSw).2 13 _ rfl).1
          have x14 := ((HX.out _ hSw).2 14 _ rfl).1
          have x15 := ((HX.out _ hSw).2 15 _ rfl).1
          go_simp
          try with_reducible rfl
        try simp only [Act.put, List.setIfInBounds_toArray, List.set_cons_zero, List.set_cons_succ]
        refine rtake_1 (v := ?vv85) (by kernel_rfl) (by kernel_rfl) (by kernel_rfl) (fun _ _ _ h => h) (Or.inl ⟨by rfl, ?hy85⟩) hxd ?_
        case hy85 =>
          intro wX hSw
          have x11 := ((HX.out _ hSw).2 11 _ rfl).1
          have x12 := ((HX.out _ hSw).2 12 _ rfl).1
          have x13 := ((HX.out _ hSw).2 13 _ rfl).1
          have x14 := ((HX.out _ hSw).2 14 _ rfl).1
          have x15 := ((HX.out _ hSw).2 15 _ rfl).1
          go_simp
          try with_reducible rfl
        try simp only [Act.put, List.setIfInBounds_toArray, List.set_cons_zero, List.set_cons_succ]
        refine rtake_2 (v := ?vv86) (by kernel_rfl) (by kernel_rfl) (by kernel_rfl) (fun _ _ _ h => h) (Or.inl ⟨by rfl, ?hy86⟩) hxd ?_
        case hy86 =>
          intro wX hSw
          have x11 := ((HX.out _ hSw).2 11 _ rfl).1
          have x12 := ((HX.out _ hSw).2 12 _ rfl).1
          have x13 := ((HX.out _ hSw).2 13 _ rfl).1
          have x14 := ((HX.out _ hSw).2 14 _ rfl).1
          have x15 := ((HX.out _ hSw).2 15 _ rfl).1
          go_simp
          try with_reducible rfl
        try simp only [Act.put, List.setIfInBounds_toArray, List.set_cons_zero, List.set_cons_succ]
        refine rtake_3 (v := ?vv87) (by kernel_rfl) (by kernel_rfl) (by kernel_rfl) (fun _ _ _ h => h) (Or.inl ⟨by rfl, ?hy87⟩) hxd ?_
        case hy87 =>
          intro wX hSw
          have x11 := ((HX.out _ hSw).2 11 _ rfl).1
          have x12 := ((HX.out _ hSw).2 12 _ rfl).1
          have x13 := ((HX.out _ hSw).2 13 _ rfl).1
          have x14 := ((HX.out _ hSw).2 14 _ rfl).1
          have x15 := ((HX.out _ hSw).2 15 _ rfl).1
          go_simp
          try with_reducible rfl
        try simp only [Act.put, List.setIfInBounds_toArray, List.set_cons_zero, List.set_cons_succ]
        refine rtake_6 (v := ?vv88) (by kernel_rfl) (by kernel_rfl) (by kernel_rfl) (fun _ _ _ h => h) (Or.inl ⟨by rfl, ?hy88⟩) hxd ?_
        case hy88 =>
          intro wX hSw
          have x11 := ((HX.out _ hSw).2 11 _ rfl).1
          have x12 := ((HX.out _ hSw).2 12 _ rfl).1
          have x13 := ((HX.out _ hSw).2 13 _ rfl).1
          have x14 := ((HX.out _ hSw).2 14 _ rfl).1
          have x15 := ((HX.out _ hSw).2 15 _ rfl).1
          go_simp
          try with_reducible rfl
        try simp only [Act.put, List.setIfInBounds_toArray, List.set_cons_zero, List.set_cons_succ]
        refine rtake_7 (v := ?vv89) (by kernel_rfl) (by kernel_rfl) (by kernel_rfl) (fun _ _ _ h => h) (Or.inl ⟨by rfl, ?hy89⟩) hxd ?_
        case hy89 =>
          intro wX hSw
          have x11 := ((HX.out _ hSw).2 11 _ rfl).1
          have x12 := ((HX.out _ hSw).2 12 _ rfl).1
          have x13 := ((HX.out _ hSw).2 13 _ rfl).1
          have x14 := ((HX.out _ hSw).2 14 _ rfl).1
          have x15 := ((HX.out _ hSw).2 15 _ rfl).1
          go_simp
          try with_reducible rfl
        try simp only [Act.put, List.setIfInBounds_toArray, List.set_cons_zero, List.set_cons_succ]
        refine rtake_8 (v := ?vv90) (by kernel_rfl) (by kernel_rfl) (by kernel_rfl) (fun _ _ _ h => h) (Or.inl ⟨by rfl, ?hy90⟩) hxd ?_
        case hy90 =>
          intro wX hSw
          have x11 := ((HX.out _ hSw).2 11 _ rfl).1
          have x12 := ((HX.out _ hSw).2 12 _ rfl).1
          have x13 := ((HX.out _ hSw).2 13 _ rfl).1
          have x14 := ((HX.out _ hSw).2 14 _ rfl).1
          have x15 := ((HX.out _ hSw).2 15 _ rfl).1
          go_simp
          try with_reducible rfl
        try simp only [Act.put, List.setIfInBounds_toArray, List.set_cons_zero, List.set_cons_succ]
        refine rready_4 (by kernel_rfl) ?_
        intro K hK
        rw [if_pos (by rfl)]
        try go_simp
        have qi := HI.out _ hxd
        refine (rheadBytes_any m.ca m.cr a.AcB a.ccB a.ncB m.cB a.AcP a.ccP a.ncP m.cP _ HBT.out qi.zcB (by first | exact qi.rcB | exact (HI.out _ hb2).rcB) qi.zcP (by first | exact qi.rcP | exact (HI.out _ hb2).rcP)).mono ?_
        rintro e w3 ⟨v3, rfl, ho3, hq3⟩
        rw [← HBS.out] at ho3
        have ho3b := own_cast ho3 ((u8s_length _).trans HNB.out)
        obtain ⟨A3, c3, rfl, hc3, hm3, hr3, _, hl3⟩ := own_val ho3b
        clear hl3 ho3 ho3b
        have hx3 : Below w1.heap.size w1 w3 := (by first | exact hb2.trans (hq3.mono hb2.size) | exact hb2.drew.trans (hq3.mono hb2.size))
        refine hK.out _ _ hx3 (fun _ => ?_)
        clear hK K
        try simp only [Act.put, List.setIfInBounds_toArray, List.set_cons_zero, List.set_cons_succ]
        refine rready_5 (by kernel_rfl) ?_
        intro K hK
        rw [if_pos (by rfl)]
        try go_simp
        refine (rfind_any g L S A3 c3 nb bs _ (HR.out _ hx3) HNB.out hr3 (by omega) hL HS.out).mono ?_
        rintro e w4 ⟨rfl, d4, hw4⟩
        rw [HFD.out]
        have hx4 : Below w1.heap.size w1 w4 := hw4 ▸ below_n hx3 d4
        clear hw4
        refine hK.out _ _ hx4 (fun _ => ?_)
        clear hK K
        try simp only [Act.put, List.setIfInBounds_toArray, List.set_cons_zero, List.set_cons_succ]
        refine rtake_9 (v := ?vv91) (by kernel_rfl) (by kernel_rfl) (by kernel_rfl) (fun _ _ _ h => h) (Or.inl ⟨by rfl, ?hy91⟩) hx4 ?_
        case hy91 =>
          intro wX hSw
          go_simp
          try with_reducible rfl
        try simp only [Act.put, List.setIfInBounds_toArray, List.set_cons_zero, List.set_cons_succ]
        refine rtake_10 (v := ?vv92) (by kernel_rfl) (by kernel_rfl) (by kernel_rfl) (fun _ _ _ h => h) (Or.inl ⟨by rfl, ?hy92⟩) hx4 ?_
        case hy92 =>
          intro wX hSw
          go_simp
          try with_reducible rfl
        try simp only [Act.put, List.setIfInBounds_toArray, List.set_cons_zero, List.set_cons_succ]
        refine wpAnyH_done (by kernel_rfl) ?_ _
        have qi := HI.out _ hx4
        obtain ⟨nS, hnS⟩ : ∃ nS, a.ncS = nS := ⟨_, rfl⟩
        have HNS : Hid (m.cS.length = nS) := by show _ = nS; rw [← hnS]; exact qi.zcS
        have HX16 : Hid (∀ wX, Below w1.heap.size w1 wX → wX.cell? ⟨w.heap.size, 16, none⟩ = some (.slice a.AcS nS a.ccS) ∧ wX.cell? ⟨w.heap.size, 15, none⟩ = some (.int .i64 m.cd)) := fun wX h => ⟨by have := ((HX.out _ h).2 16 _ rfl).1; rw [hnS] at this; exact this, ((HX.out _ h).2 15 _ rfl).1⟩
        have hnS16 : nS ≤ 1000000 := by have := HF.out.scS; omega
        clear qi hnS
        go_wp2_with fail
        go_loopw [9, 10] (fun ok i wr => ∃ k : Nat, i = .int .i64 k ∧ k ≤ nS ∧ Hid (ok = .bool (false)) ∧ Below w1.heap.size w1 wr) (fun _ i _ => nS - (intOf i).toNat)
        case atStart => exact ⟨0, rfl, by omega, by first | rfl | simp [allBy], hx4⟩
        case round =>
          obtain ⟨k, rfl, hk, HOKK, hxr⟩ := hrel
          have hbr := hb1.trans (hxr.mono hb1.size)
          obtain ⟨c16, c15⟩ := HX16.out _ hxr
          by_cases hlt : k < nS
          · have i0 : (0 : Int) ≤ (k : Int) := by omega
            have i1 : (k : Int) < (nS : Int) := by omega
            have ho := HOKK.out
            subst ho
            have c16b : ∀ x : Calm wr, x.val.cell? ⟨w.heap.size, 16, none⟩ = some (.slice a.AcS nS a.ccS) := fun x => (HX16.out _ (hxr.trans (x.ok.mono hxr.size))).1
            go_wp2_with fail
            refine wp_region_calm (by kernel_rfl) (by kernel_rfl) ?_
            repeat (go_big_quiet_step (fail))
            refine wpQuiet_nil ?_
            rintro _ ⟨x, rfl⟩
            clear c16b
            go_wp2_with fail
            go_roundw
            case rel => exact ⟨k + 1, by go_num, by omega, rfl, hxr.trans (x.ok.mono hxr.size)⟩
            case measure => simp [intOf]; omega
          · have i1 : ¬ ((k : Int) < (nS : Int)) := by omega
            have ho := HOKK.out
            subst ho
            have HN : Hid (v = 7) := by show v = 7; rw [HVV.out, HOK2.out]; rfl
            go_wp2_with fail
            go_ret
            exact ⟨by rw [HN.out]; rfl, hbr⟩
    have n6 := Lib.hid hk
    clear hk
    by_cases hk : m.k = 7
    · have e1 : (m.k == 1) = false := by simp [hk]
      have e3 : (m.k == 3) = false := by simp [hk]
      have e4 : (m.k == 4) = false := by simp [hk]
      have e6 : (m.k == 6) = false := by simp [hk]
      have e2 : (m.k == 2) = false := by simp [hk]
      have e5 : (m.k == 5) = false := by simp [hk]
      have HOK : Hid (okR L S l m = (betwB m.D 1 (L.length : Int))) := by show okR L S l m = _; unfold okR; simp [hk]
      clear hk
      obtain ⟨vL, vW, vD, es, hRB⟩ := HR.out _ hb2
      obtain ⟨nL, hnL⟩ : ∃ nL, L.length = nL := ⟨_, rfl⟩
      have hown := hRB.rL
      rw [hnL] at hown HOK
      obtain ⟨AL, cL, hvL, _, _, _, _, _⟩ := own_val hown
      have hc0 := hRB.c0
      rw [hvL] at hc0
      have hgl : g < w2.heap.size := hRB.lt _ hRB.here
      have c0 : ∀ x : Calm w2, x.val.cell? ⟨g, 0, none⟩ = some (.slice AL nL cL) := fun x => (x.ok.cell (p := ⟨g, 0, none⟩) hgl).trans hc0
      clear hRB hown hvL hnL
      have x17 : ∀ x : Calm w2, x.val.cell? ⟨w.heap.size, 17, none⟩ = some (.slice a.AD a.nD a.cD) := fun x => ((HX.out _ (hb2.trans (x.ok.mono hb2.size))).2 17 _ rfl).1
      go_upto_region 5 with fail
      refine wp_region_calm (by kernel_rfl) (by kernel_rfl) ?_
      repeat (go_big_quiet_step (first | (go_at_call 47; exact calm_same (between_is (betwB m.D 1 (nL : Int)) a.AD a.cD a.nD m.D 1 nL _ rfl (HI.out _ hb2).zD (HI.out _ (hb2.trans ((Calm.ok _).mono hb2.size))).rD (by have := HF.out.sD; omega)))))
      refine wpQuiet_nil ?_
      rintro _ ⟨x, rfl⟩
      have hb4 := hb3.trans (x.ok.mono hb3.size)
      clear c0 x17
      cases hby : betwB m.D 1 (nL : Int) with
      | true =>
        have HN : Hid (v = 0) := by show v = 0; rw [HVV.out, HOK.out, hby]; rfl
        clear hby
        go_wp2_with fail
        go_ret
        exact ⟨by rw [HN.out]; rfl, hb4⟩
      | false =>
        have HN : Hid (v = 7) := by show v = 7; rw [HVV.out, HOK.out, hby]; rfl
        clear hby
        go_wp2_with fail
        go_ret
        exact ⟨by rw [HN.out]; rfl, hb4⟩
    have n7 := Lib.hid hk
    clear hk
    by_cases hk : m.k = 8
    · have e1 : (m.k == 1) = false := by simp [hk]
      have e3 : (m.k == 3) = false := by simp [hk]
      have e4 : (m.k == 4) = false := by simp [hk]
      have e6 : (m.k == 6) = false := by simp [hk]
      have e2 : (m.k == 2) = false := by simp [hk]
      have e5 : (m.k == 5) = false := by simp [hk]
      have HOK : Hid (okR L S l m = (betwB m.D 1 (L.length : Int))) := by show okR L S l m = _; unfold okR; simp [hk]
      clear hk
      obtain ⟨vL, vW, vD, es, hRB⟩ := HR.out _ hb2
      obtain ⟨nL, hnL⟩ : ∃ nL, L.length = nL := ⟨_, rfl⟩
      have hown := hRB.rL
      rw [hnL] at hown HOK
      obtain ⟨AL, cL, hvL, _, _, _, _, _⟩ := own_val hown
      have hc0 := hRB.c0
      rw [hvL] at hc0
      have hgl : g < w2.heap.size := hRB.lt _ hRB.here
      have c0 : ∀ x : Calm w2, x.val.cell? ⟨g, 0, none⟩ = some (.slice AL nL cL) := fun x => (x.ok.cell (p := ⟨g, 0, none⟩) hgl).trans hc0
      clear hRB hown hvL hnL
      have x17 : ∀ x : Calm w2, x.val.cell? ⟨w.heap.size, 17, none⟩ = some (.slice a.AD a.nD a.cD) := fun x => ((HX.out _ (hb2.trans (x.ok.mono hb2.size))).2 17 _ rfl).1
      go_upto_region 5 with fail
      refine wp_region_calm (by kernel_rfl) (by kernel_rfl) ?_
      repeat (go_big_quiet_step (first | (go_at_call 47; exact calm_same (between_is (betwB m.D 1 (nL : Int)) a.AD a.cD a.nD m.D 1 nL _ rfl (HI.out _ hb2).zD (HI.out _ (hb2.trans ((Calm.ok _).mono hb2.size))).rD (by have := HF.out.sD; omega)))))
      refine wpQuiet_nil ?_
      rintro _ ⟨x, rfl⟩
      have hb4 := hb3.trans (x.ok.mono hb3.size)
      clear c0 x17
      cases hby : betwB m.D 1 (nL : Int) with
      | true =>
        have HN : Hid (v = 0) := by show v = 0; rw [HVV.out, HOK.out, hby]; rfl
        clear hby
        go_wp2_with fail
        go_ret
        exact ⟨by rw [HN.out]; rfl, hb4⟩
      | false =>
        have HN : Hid (v = 7) := by show v = 7; rw [HVV.out, HOK.out, hby]; rfl
        clear hby
        go_wp2_with fail
        go_ret
        exact ⟨by rw [HN.out]; rfl, hb4⟩
    have n8 := Lib.hid hk
    clear hk
    exfalso
    have h := HFO.out
    unfold formB at h
    rw [if_neg (by rintro (h | h); exact n1.out h; exact n3.out h), if_neg (by rintro (h | h); exact n2.out h; exact n5.out h), if_neg n4.out, if_neg n6.out, if_neg (by rintro (h | h); exact n7.out h; exact n8.out h)] at h
    cases h

end Go.Proofs.Ytcfnomnhameleaa
