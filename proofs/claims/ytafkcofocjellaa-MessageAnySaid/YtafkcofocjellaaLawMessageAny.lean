/-
  The walk of 'MessageAny', out of what it asks of package message.
-/
import Derived.Test.YtafkcofocjellaaMLaw
import Derived.Test.YtafkcofocjellaaMWeigh
import Derived.Test.YtafkcofocjellaaMFour
import Derived.Test.YtafkcofocjellaaMMay
import Derived.Test.YtafkcofocjellaaZA
import Derived.Deep.DeepCutAuto
import Derived.Deep.CutRange
import Derived.Deep.RegionLaw
import Derived.Deep.RegionHeld3
import Derived.Test.YtafkcofocjellaaZD
namespace Go.Proofs.Ytafkcofocjellaa
open Go.RowKit

theorem take_0 {P : Program} {md : Region.Mode} {Q : Exit → Act → World → Prop} {S : World → Prop} {o0 : Oper} {rest : List Oper} {v : Value} {fuel : Nat} {listed : Array Bool} {a : Act} {w : World}
    (hs : Region.noSelect (o0 :: rest).toArray = true) (hf : Region.free md (o0 :: rest).toArray listed 0 = true) (hr : (Region.ready md (o0 :: rest).toArray listed).contains 0 = true)
    (hQ : ∀ c a w, Q (.panic c) (a.put o0.dst v) w → Q (.panic c) a w) (hy : YieldsIf P (o0 :: rest).toArray S o0 v a) (hS : S w)
    (h : wpAnyH P md (o0 :: rest).toArray Q S fuel (listed.setIfInBounds 0 true) (a.put o0.dst v) w) : wpAnyH P md (o0 :: rest).toArray Q S (fuel + 1) listed a w :=
  wpAnyH_take (i := 0) (oi := o0) rfl hs hf hr hQ hy hS h
theorem take_1 {P : Program} {md : Region.Mode} {Q : Exit → Act → World → Prop} {S : World → Prop} {o0 o1 : Oper} {rest : List Oper} {v : Value} {fuel : Nat} {listed : Array Bool} {a : Act} {w : World}
    (hs : Region.noSelect (o0 :: o1 :: rest).toArray = true) (hf : Region.free md (o0 :: o1 :: rest).toArray listed 1 = true) (hr : (Region.ready md (o0 :: o1 :: rest).toArray listed).contains 1 = true)
    (hQ : ∀ c a w, Q (.panic c) (a.put o1.dst v) w → Q (.panic c) a w) (hy : YieldsIf P (o0 :: o1 :: rest).toArray S o1 v a) (hS : S w)
    (h : wpAnyH P md (o0 :: o1 :: rest).toArray Q S fuel (listed.setIfInBounds 1 true) (a.put o1.dst v) w) : wpAnyH P md (o0 :: o1 :: rest).toArray Q S (fuel + 1) listed a w :=
  wpAnyH_take (i := 1) (oi := o1) rfl hs hf hr hQ hy hS h
theorem take_2 {P : Program} {md : Region.Mode} {Q : Exit → Act → World → Prop} {S : World → Prop} {o0 o1 o2 : Oper} {rest : List Oper} {v : Value} {fuel : Nat} {listed : Array Bool} {a : Act} {w : World}
    (hs : Region.noSelect (o0 :: o1 :: o2 :: rest).toArray = true) (hf : Region.free md (o0 :: o1 :: o2 :: rest).toArray listed 2 = true) (hr : (Region.ready md (o0 :: o1 :: o2 :: rest).toArray listed).contains 2 = true)
    (hQ : ∀ c a w, Q (.panic c) (a.put o2.dst v) w → Q (.panic c) a w) (hy : YieldsIf P (o0 :: o1 :: o2 :: rest).toArray S o2 v a) (hS : S w)
    (h : wpAnyH P md (o0 :: o1 :: o2 :: rest).toArray Q S fuel (listed.setIfInBounds 2 true) (a.put o2.dst v) w) : wpAnyH P md (o0 :: o1 :: o2 :: rest).toArray Q S (fuel + 1) listed a w :=
  wpAnyH_take (i := 2) (oi := o2) rfl hs hf hr hQ hy hS h
theorem take_3 {P : Program} {md : Region.Mode} {Q : Exit → Act → World → Prop} {S : World → Prop} {o0 o1 o2 o3 : Oper} {rest : List Oper} {v : Value} {fuel : Nat} {listed : Array Bool} {a : Act} {w : World}
    (hs : Region.noSelect (o0 :: o1 :: o2 :: o3 :: rest).toArray = true) (hf : Region.free md (o0 :: o1 :: o2 :: o3 :: rest).toArray listed 3 = true) (hr : (Region.ready md (o0 :: o1 :: o2 :: o3 :: rest).toArray listed).contains 3 = true)
    (hQ : ∀ c a w, Q (.panic c) (a.put o3.dst v) w → Q (.panic c) a w) (hy : YieldsIf P (o0 :: o1 :: o2 :: o3 :: rest).toArray S o3 v a) (hS : S w)
    (h : wpAnyH P md (o0 :: o1 :: o2 :: o3 :: rest).toArray Q S fuel (listed.setIfInBounds 3 true) (a.put o3.dst v) w) : wpAnyH P md (o0 :: o1 :: o2 :: o3 :: rest).toArray Q S (fuel + 1) listed a w :=
  wpAnyH_take (i := 3) (oi := o3) rfl hs hf hr hQ hy hS h
theorem take_4 {P : Program} {md : Region.Mode} {Q : Exit → Act → World → Prop} {S : World → Prop} {o0 o1 o2 o3 o4 : Oper} {rest : List Oper} {v : Value} {fuel : Nat} {listed : Array Bool} {a : Act} {w : World}
    (hs : Region.noSelect (o0 :: o1 :: o2 :: o3 :: o4 :: rest).toArray = true) (hf : Region.free md (o0 :: o1 :: o2 :: o3 :: o4 :: rest).toArray listed 4 = true) (hr : (Region.ready md (o0 :: o1 :: o2 :: o3 :: o4 :: rest).toArray listed).contains 4 = true)
    (hQ : ∀ c a w, Q (.panic c) (a.put o4.dst v) w → Q (.panic c) a w) (hy : YieldsIf P (o0 :: o1 :: o2 :: o3 :: o4 :: rest).toArray S o4 v a) (hS : S w)
    (h : wpAnyH P md (o0 :: o1 :: o2 :: o3 :: o4 :: rest).toArray Q S fuel (listed.setIfInBounds 4 true) (a.put o4.dst v) w) : wpAnyH P md (o0 :: o1 :: o2 :: o3 :: o4 :: rest).toArray Q S (fuel + 1) listed a w :=
  wpAnyH_take (i := 4) (oi := o4) rfl hs hf hr hQ hy hS h
theorem take_5 {P : Program} {md : Region.Mode} {Q : Exit → Act → World → Prop} {S : World → Prop} {o0 o1 o2 o3 o4 o5 : Oper} {rest : List Oper} {v : Value} {fuel : Nat} {listed : Array Bool} {a : Act} {w : World}
    (hs : Region.noSelect (o0 :: o1 :: o2 :: o3 :: o4 :: o5 :: rest).toArray = true) (hf : Region.free md (o0 :: o1 :: o2 :: o3 :: o4 :: o5 :: rest).toArray listed 5 = true) (hr : (Region.ready md (o0 :: o1 :: o2 :: o3 :: o4 :: o5 :: rest).toArray listed).contains 5 = true)
    (hQ : ∀ c a w, Q (.panic c) (a.put o5.dst v) w → Q (.panic c) a w) (hy : YieldsIf P (o0 :: o1 :: o2 :: o3 :: o4 :: o5 :: rest).toArray S o5 v a) (hS : S w)
    (h : wpAnyH P md (o0 :: o1 :: o2 :: o3 :: o4 :: o5 :: rest).toArray Q S fuel (listed.setIfInBounds 5 true) (a.put o5.dst v) w) : wpAnyH P md (o0 :: o1 :: o2 :: o3 :: o4 :: o5 :: rest).toArray Q S (fuel + 1) listed a w :=
  wpAnyH_take (i := 5) (oi := o5) rfl hs hf hr hQ hy hS h
theorem take_6 {P : Program} {md : Region.Mode} {Q : Exit → Act → World → Prop} {S : World → Prop} {o0 o1 o2 o3 o4 o5 o6 : Oper} {rest : List Oper} {v : Value} {fuel : Nat} {listed : Array Bool} {a : Act} {w : World}
    (hs : Region.noSelect (o0 :: o1 :: o2 :: o3 :: o4 :: o5 :: o6 :: rest).toArray = true) (hf : Region.free md (o0 :: o1 :: o2 :: o3 :: o4 :: o5 :: o6 :: rest).toArray listed 6 = true) (hr : (Region.ready md (o0 :: o1 :: o2 :: o3 :: o4 :: o5 :: o6 :: rest).toArray listed).contains 6 = true)
    (hQ : ∀ c a w, Q (.panic c) (a.put o6.dst v) w → Q (.panic c) a w) (hy : YieldsIf P (o0 :: o1 :: o2 :: o3 :: o4 :: o5 :: o6 :: rest).toArray S o6 v a) (hS : S w)
    (h : wpAnyH P md (o0 :: o1 :: o2 :: o3 :: o4 :: o5 :: o6 :: rest).toArray Q S fuel (listed.setIfInBounds 6 true) (a.put o6.dst v) w) : wpAnyH P md (o0 :: o1 :: o2 :: o3 :: o4 :: o5 :: o6 :: rest).toArray Q S (fuel + 1) listed a w :=
  wpAnyH_take (i := 6) (oi := o6) rfl hs hf hr hQ hy hS h
theorem take_7 {P : Program} {md : Region.Mode} {Q : Exit → Act → World → Prop} {S : World → Prop} {o0 o1 o2 o3 o4 o5 o6 o7 : Oper} {rest : List Oper} {v : Value} {fuel : Nat} {listed : Array Bool} {a : Act} {w : World}
    (hs : Region.noSelect (o0 :: o1 :: o2 :: o3 :: o4 :: o5 :: o6 :: o7 :: rest).toArray = true) (hf : Region.free md (o0 :: o1 :: o2 :: o3 :: o4 :: o5 :: o6 :: o7 :: rest).toArray listed 7 = true) (hr : (Region.ready md (o0 :: o1 :: o2 :: o3 :: o4 :: o5 :: o6 :: o7 :: rest).toArray listed).contains 7 = true)
    (hQ : ∀ c a w, Q (.panic c) (a.put o7.dst v) w → Q (.panic c) a w) (hy : YieldsIf P (o0 :: o1 :: o2 :: o3 :: o4 :: o5 :: o6 :: o7 :: rest).toArray S o7 v a) (hS : S w)
    (h : wpAnyH P md (o0 :: o1 :: o2 :: o3 :: o4 :: o5 :: o6 :: o7 :: rest).toArray Q S fuel (listed.setIfInBounds 7 true) (a.put o7.dst v) w) : wpAnyH P md (o0 :: o1 :: o2 :: o3 :: o4 :: o5 :: o6 :: o7 :: rest).toArray Q S (fuel + 1) listed a w :=
  wpAnyH_take (i := 7) (oi := o7) rfl hs hf hr hQ hy hS h
theorem take_8 {P : Program} {md : Region.Mode} {Q : Exit → Act → World → Prop} {S : World → Prop} {o0 o1 o2 o3 o4 o5 o6 o7 o8 : Oper} {rest : List Oper} {v : Value} {fuel : Nat} {listed : Array Bool} {a : Act} {w : World}
    (hs : Region.noSelect (o0 :: o1 :: o2 :: o3 :: o4 :: o5 :: o6 :: o7 :: o8 :: rest).toArray = true) (hf : Region.free md (o0 :: o1 :: o2 :: o3 :: o4 :: o5 :: o6 :: o7 :: o8 :: rest).toArray listed 8 = true) (hr : (Region.ready md (o0 :: o1 :: o2 :: o3 :: o4 :: o5 :: o6 :: o7 :: o8 :: rest).toArray listed).contains 8 = true)
    (hQ : ∀ c a w, Q (.panic c) (a.put o8.dst v) w → Q (.panic c) a w) (hy : YieldsIf P (o0 :: o1 :: o2 :: o3 :: o4 :: o5 :: o6 :: o7 :: o8 :: rest).toArray S o8 v a) (hS : S w)
    (h : wpAnyH P md (o0 :: o1 :: o2 :: o3 :: o4 :: o5 :: o6 :: o7 :: o8 :: rest).toArray Q S fuel (listed.setIfInBounds 8 true) (a.put o8.dst v) w) : wpAnyH P md (o0 :: o1 :: o2 :: o3 :: o4 :: o5 :: o6 :: o7 :: o8 :: rest).toArray Q S (fuel + 1) listed a w :=
  wpAnyH_take (i := 8) (oi := o8) rfl hs hf hr hQ hy hS h
theorem take_9 {P : Program} {md : Region.Mode} {Q : Exit → Act → World → Prop} {S : World → Prop} {o0 o1 o2 o3 o4 o5 o6 o7 o8 o9 : Oper} {rest : List Oper} {v : Value} {fuel : Nat} {listed : Array Bool} {a : Act} {w : World}
    (hs : Region.noSelect (o0 :: o1 :: o2 :: o3 :: o4 :: o5 :: o6 :: o7 :: o8 :: o9 :: rest).toArray = true) (hf : Region.free md (o0 :: o1 :: o2 :: o3 :: o4 :: o5 :: o6 :: o7 :: o8 :: o9 :: rest).toArray listed 9 = true) (hr : (Region.ready md (o0 :: o1 :: o2 :: o3 :: o4 :: o5 :: o6 :: o7 :: o8 :: o9 :: rest).toArray listed).contains 9 = true)
    (hQ : ∀ c a w, Q (.panic c) (a.put o9.dst v) w → Q (.panic c) a w) (hy : YieldsIf P (o0 :: o1 :: o2 :: o3 :: o4 :: o5 :: o6 :: o7 :: o8 :: o9 :: rest).toArray S o9 v a) (hS : S w)
    (h : wpAnyH P md (o0 :: o1 :: o2 :: o3 :: o4 :: o5 :: o6 :: o7 :: o8 :: o9 :: rest).toArray Q S fuel (listed.setIfInBounds 9 true) (a.put o9.dst v) w) : wpAnyH P md (o0 :: o1 :: o2 :: o3 :: o4 :: o5 :: o6 :: o7 :: o8 :: o9 :: rest).toArray Q S (fuel + 1) listed a w :=
  wpAnyH_take (i := 9) (oi := o9) rfl hs hf hr hQ hy hS h
theorem take_10 {P : Program} {md : Region.Mode} {Q : Exit → Act → World → Prop} {S : World → Prop} {o0 o1 o2 o3 o4 o5 o6 o7 o8 o9 o10 : Oper} {rest : List Oper} {v : Value} {fuel : Nat} {listed : Array Bool} {a : Act} {w : World}
    (hs : Region.noSelect (o0 :: o1 :: o2 :: o3 :: o4 :: o5 :: o6 :: o7 :: o8 :: o9 :: o10 :: rest).toArray = true) (hf : Region.free md (o0 :: o1 :: o2 :: o3 :: o4 :: o5 :: o6 :: o7 :: o8 :: o9 :: o10 :: rest).toArray listed 10 = true) (hr : (Region.ready md (o0 :: o1 :: o2 :: o3 :: o4 :: o5 :: o6 :: o7 :: o8 :: o9 :: o10 :: rest).toArray listed).contains 10 = true)
    (hQ : ∀ c a w, Q (.panic c) (a.put o10.dst v) w → Q (.panic c) a w) (hy : YieldsIf P (o0 :: o1 :: o2 :: o3 :: o4 :: o5 :: o6 :: o7 :: o8 :: o9 :: o10 :: rest).toArray S o10 v a) (hS : S w)
    (h : wpAnyH P md (o0 :: o1 :: o2 :: o3 :: o4 :: o5 :: o6 :: o7 :: o8 :: o9 :: o10 :: rest).toArray Q S fuel (listed.setIfInBounds 10 true) (a.put o10.dst v) w) : wpAnyH P md (o0 :: o1 :: o2 :: o3 :: o4 :: o5 :: o6 :: o7 :: o8 :: o9 :: o10 :: rest).toArray Q S (fuel + 1) listed a w :=
  wpAnyH_take (i := 10) (oi := o10) rfl hs hf hr hQ hy hS h
theorem take_11 {P : Program} {md : Region.Mode} {Q : Exit → Act → World → Prop} {S : World → Prop} {o0 o1 o2 o3 o4 o5 o6 o7 o8 o9 o10 o11 : Oper} {rest : List Oper} {v : Value} {fuel : Nat} {listed : Array Bool} {a : Act} {w : World}
    (hs : Region.noSelect (o0 :: o1 :: o2 :: o3 :: o4 :: o5 :: o6 :: o7 :: o8 :: o9 :: o10 :: o11 :: rest).toArray = true) (hf : Region.free md (o0 :: o1 :: o2 :: o3 :: o4 :: o5 :: o6 :: o7 :: o8 :: o9 :: o10 :: o11 :: rest).toArray listed 11 = true) (hr : (Region.ready md (o0 :: o1 :: o2 :: o3 :: o4 :: o5 :: o6 :: o7 :: o8 :: o9 :: o10 :: o11 :: rest).toArray listed).contains 11 = true)
    (hQ : ∀ c a w, Q (.panic c) (a.put o11.dst v) w → Q (.panic c) a w) (hy : YieldsIf P (o0 :: o1 :: o2 :: o3 :: o4 :: o5 :: o6 :: o7 :: o8 :: o9 :: o10 :: o11 :: rest).toArray S o11 v a) (hS : S w)
    (h : wpAnyH P md (o0 :: o1 :: o2 :: o3 :: o4 :: o5 :: o6 :: o7 :: o8 :: o9 :: o10 :: o11 :: rest).toArray Q S fuel (listed.setIfInBounds 11 true) (a.put o11.dst v) w) : wpAnyH P md (o0 :: o1 :: o2 :: o3 :: o4 :: o5 :: o6 :: o7 :: o8 :: o9 :: o10 :: o11 :: rest).toArray Q S (fuel + 1) listed a w :=
  wpAnyH_take (i := 11) (oi := o11) rfl hs hf hr hQ hy hS h
theorem ready_6 {P : Program} {md : Region.Mode} {Q : Exit → Act → World → Prop} {S : World → Prop} {o0 o1 o2 o3 o4 o5 o6 : Oper} {rest : List Oper} {fuel : Nat} {listed : Array Bool} {a : Act} {w : World}
    (hr : Region.ready md (o0 :: o1 :: o2 :: o3 :: o4 :: o5 :: o6 :: rest).toArray listed = [6])
    (h : ∀ K' : Act → World → Prop, Shut (∀ a w, S w → (S w → wpAnyH P md (o0 :: o1 :: o2 :: o3 :: o4 :: o5 :: o6 :: rest).toArray Q S fuel (listed.setIfInBounds 6 true) a w) → K' a w) → if Region.wanted o6 (yielded (o0 :: o1 :: o2 :: o3 :: o4 :: o5 :: o6 :: rest).toArray a.tmps) = true then Oper.wp P o6 a w K' Q else K' (a.put o6.dst undef) w) :
    wpAnyH P md (o0 :: o1 :: o2 :: o3 :: o4 :: o5 :: o6 :: rest).toArray Q S (fuel + 1) listed a w :=
  wpAnyH_ready hr (by simp) (AllReadyH.cons (i := 6) (o := o6) rfl h AllReadyH.nil)

set_option maxRecDepth 100000 in
set_option maxHeartbeats 16000000 in
theorem messageAny_walk {E : MsgD → Int → List Int} {D : List Int → Int → Option MsgD} (HC : Hid (MCodec E D)) (C : MContracts E D) (okD : ∀ x n m, Byts x → D x n = some m → MsgOk m) (a : Option Addr) (len cap : Nat) (w : World) (ha : MAsks w a len cap) :
    Calls Try.prog 4 #[.slice a len cap] w fun e w' => e = .returned (.bool true) ∧ Below w.heap.size w w' := by
  obtain ⟨hl, hm, hi⟩ := ha
  unfold maxLen at hm
  have HI := Lib.hid hi
  clear hi
  go_enter Try.func4, Try.ntmps4
  go_wp2_with fail
  go_loopw [3] (fun i wr => ∃ k : Nat, i = .int .i64 k ∧ k ≤ len ∧ k ≤ 8 ∧ Below w.heap.size w wr) (fun i _ => 8 - (intOf i).toNat)
  case atStart => exact ⟨0, rfl, by omega, by omega, Below.refl _ _⟩
  case round =>
    obtain ⟨k, rfl, hk, hkm, hb⟩ := hrel
    by_cases hlt : k < len
    · by_cases hmo : k < 8
      · have i0 : (0 : Int) ≤ (k : Int) := by omega
        have i1 : (k : Int) < (len : Int) := by omega
        have i2 : (k : Int) < 8 := by omega
        obtain ⟨b, off, ⟨m, ma, N, XA, cX, X⟩, nX, rfl, (hnX : X.length = nX), hA⟩ := (HI.out k hlt).all
        have HNX := Lib.hid hnX
        have HA : Hid (∀ wX, Below w.heap.size w wX → wX.cell? ⟨b, off + k * 20 + 18, none⟩ = some (.int .i64 N) ∧ wX.cell? ⟨b, off + k * 20 + 19, none⟩ = some (.slice XA nX cX) ∧ Rd wX XA (u8s X)) := fun wX h => ⟨(hA wX h).2 18 _ rfl, (hA wX h).2 19 _ rfl, (hA wX h).1.rX⟩
        have hXc : nX ≤ cX := by have := (hA _ hb).1.hX; have := HNX.out; simp only at *; omega
        have HXM : Hid (cX ≤ maxLen) := (hA _ hb).1.mX
        have HXB : Hid (Byts X) := (hA _ hb).1.sX
        have HN : Hid (I64 N) := (hA _ hb).1.wN
        clear hnX hA
        obtain ⟨c18, c19, hrX⟩ := HA.out _ hb
        by_cases hlong : 4000 < nX
        · have il : (4000 : Int) < (nX : Int) := by omega
          go_wp2_with fail
          go_ret
          exact ⟨rfl, hb⟩
        have il : ¬ ((4000 : Int) < (nX : Int)) := by omega
        go_wp2_with fail
        refine (copyBytes_any XA cX nX X _ HNX.out hrX hXc (by omega)).mono ?_
        rintro e w1 ⟨v1, rfl, ho1, hq1⟩
        have hb1 := hb.trans (hq1.mono hb.size)
        have ho1b := own_cast ho1 ((u8s_length _).trans HNX.out)
        obtain ⟨A1, d1, rfl, hd1, hm1, hr1, _, hl1⟩ := own_val ho1b
        clear hl1 ho1 ho1b c18 c19 hrX
        obtain ⟨c18, c19, hrX⟩ := HA.out _ hb1
        go_wp2_with fail
        cases hp : D X N with
        | none =>
          have HP := Lib.hid hp
          clear hp
          refine (C.dec_no A1 d1 nX X N _ HP.out HNX.out hr1 HXB.out hd1 hm1 (by omega) HN.out).mono ?_
          rintro e w2 ⟨rfl, hq2⟩
          have hb2 := hb1.trans (hq2.mono hb1.size)
          have hr2 := hr1.below hq2
          clear hq2 hr1
          obtain ⟨g3, hg3⟩ : ∃ g3, g3 = w2.heap.size := ⟨_, rfl⟩
          have HG3 : Hid (g3 = w2.heap.size) := hg3
          have HZg3 := Lib.hid (box_new w2 (msgC zeroM zeroA) 32)
          go_wp2_with (first
            | (refine wpList_store_box rfl 32 _ _ rfl w2.heap.size 0 (msgC zeroM zeroA) (msgC zeroM zeroA) (msgC zeroM zeroA) rfl rfl HZg3.out (by simp [msgC]) rfl size_msg rfl ?_)
            | (refine wpList_run_to rfl 32 rfl (.pointer (some ⟨w2.heap.size, 0, none⟩)) (w2.alloc (.cells (msgC zeroM zeroA).toArray 32)) (by unfold execOp msgC zeroM zeroA; go_simp; done) ?_))
          intro w3 bxg3 Tg3
          have tg3 := Tg3 (fun k => k = w2.heap.size) rfl
          have hqw3 : Below w2.heap.size w2 w3 := ((Below.refl _ _).alloc (Nat.le_refl _) _).trans (tg3.below (fun k hk => by rw [hk]; exact Nat.le_refl _) (by simp))
          have hw3 := hb2.trans (hqw3.mono hb2.size)
          rw [← hg3] at bxg3 ⊢
          have HBg3 : Hid (∀ wX, Below w3.heap.size w3 wX → Box wX g3 (msgC zeroM zeroA)) := fun wX h => bxg3.below h bxg3.1
          clear Tg3 tg3 bxg3 hg3 HZg3
          have hr3 := hr2.below hqw3
          clear hr2
          clear c18 c19 hrX
          obtain ⟨c18, c19, hrX⟩ := HA.out _ hw3
          go_wp2_with fail
          refine (eqBytes_is true A1 XA d1 cX nX nX X X _ (by simp) HNX.out HNX.out hr3 hrX (by omega) (by omega)).mono ?_
          rintro e w4 ⟨rfl, dd, hw4⟩
          have hq4 : Below w3.heap.size w3 w4 := by rw [hw4]; exact below_n (Below.refl _ _) dd
          have hb4 := hw3.trans (hq4.mono hw3.size)
          clear hw4
          go_wp2_with fail
          refine (mnum_any _ _).mono ?_
          rintro e w' ⟨rfl, rfl⟩
          go_wp2_with fail
          refine (mnum_any _ _).mono ?_
          rintro e w' ⟨rfl, rfl⟩
          go_wp2_with (refine wpList_load_midG 32 _ rfl g3 0 rfl rfl (msgC zeroM zeroA) _ (box_range (HBg3.out _ hq4)) Try.underlying32 rfl size_msg ?_)
          refine (reqMsg_is true zeroM zeroM zeroA zeroA _ (by simp) (msgIn_zero _) (msgIn_zero _) (few_zeroA _) (few_zeroA _)).mono ?_
          rintro e w5 ⟨rfl, hq5⟩
          have hb5 := hb4.trans (hq5.mono hb4.size)
          go_wp2_with fail
          refine (mnum_any _ _).mono ?_
          rintro e w' ⟨rfl, rfl⟩
          go_wp2_with fail
          go_roundw
          case rel => exact ⟨k + 1, by go_num, by omega, by omega, hb5⟩
          case measure => simp [intOf]; omega
        | some m2 =>
          have HP := Lib.hid hp
          obtain ⟨hv2, hzz⟩ := HC.out.get _ _ _ HXB.out hp
          have HV2 := Lib.hid hv2
          have HZZ := Lib.hid hzz
          have HOK2 : Hid (MsgOk m2) := okD _ _ _ HXB.out hp
          clear hp hv2 hzz
          refine (C.dec_yes A1 d1 nX X m2 N _ HP.out HNX.out hr1 HXB.out hd1 hm1 (by omega) HN.out).mono ?_
          rintro e w2 ⟨a2, rfl, hi2, hq2⟩
          have hb2 := hb1.trans (hq2.mono hb1.size)
          have hr2 := hr1.below hq2
          have HF2 := Lib.hid (mess_few HV2.out hi2)
          have HI2 : Hid (∀ wX, Below w2.heap.size w2 wX → MsgIn wX m2 a2) := fun wX h => hi2.below h
          clear hq2 hr1 hi2
          obtain ⟨g3, hg3⟩ : ∃ g3, g3 = w2.heap.size := ⟨_, rfl⟩
          have HG3 : Hid (g3 = w2.heap.size) := hg3
          have HZg3 := Lib.hid (box_new w2 (msgC zeroM zeroA) 32)
          go_wp2_with (first
            | (refine wpList_store_box rfl 32 _ _ rfl w2.heap.size 0 (msgC m2 a2) (msgC zeroM zeroA) (msgC m2 a2) rfl rfl HZg3.out (by simp [msgC]) rfl size_msg rfl ?_)
            | (refine wpList_run_to rfl 32 rfl (.pointer (some ⟨w2.heap.size, 0, none⟩)) (w2.alloc (.cells (msgC zeroM zeroA).toArray 32)) (by unfold execOp msgC zeroM zeroA; go_simp; done) ?_))
          intro w3 bxg3 Tg3
          have tg3 := Tg3 (fun k => k = w2.heap.size) rfl
          have hqw3 : Below w2.heap.size w2 w3 := ((Below.refl _ _).alloc (Nat.le_refl _) _).trans (tg3.below (fun k hk => by rw [hk]; exact Nat.le_refl _) (by simp))
          have hw3 := hb2.trans (hqw3.mono hb2.size)
          rw [← hg3] at bxg3 ⊢
          have HBg3 : Hid (∀ wX, Below w3.heap.size w3 wX → Box wX g3 (msgC m2 a2)) := fun wX h => bxg3.below h bxg3.1
          clear Tg3 tg3 bxg3 hg3 HZg3
          have hr3 := hr2.below hqw3
          clear hr2
          clear c18 c19 hrX
          obtain ⟨c18, c19, hrX⟩ := HA.out _ hw3
          go_wp2_with fail
          refine (eqBytes_is true A1 XA d1 cX nX nX X X _ (by simp) HNX.out HNX.out hr3 hrX (by omega) (by omega)).mono ?_
          rintro e w4 ⟨rfl, dd, hw4⟩
          have hq4 : Below w3.heap.size w3 w4 := by rw [hw4]; exact below_n (Below.refl _ _) dd
          have hb4 := hw3.trans (hq4.mono hw3.size)
          clear hw4
          clear c18 c19 hrX
          obtain ⟨c18, c19, hrX⟩ := HA.out _ hb4
          go_wp2_with fail
          refine (mnum_any _ _).mono ?_
          rintro e w' ⟨rfl, rfl⟩
          go_wp2_with fail
          refine (mnum_any _ _).mono ?_
          rintro e w' ⟨rfl, rfl⟩
          go_upto_region 11 with fail
          clear c18 c19 hrX
          obtain ⟨w5, hw5⟩ : ∃ w5, w5 = w4.drew := ⟨_, rfl⟩
          have hq5 : Below w4.heap.size w4 w5 := by rw [hw5]; exact (Below.refl _ _).drew
          have HW5 := Lib.hid hw5
          clear hw5
          refine wp_region_held_drew (S := fun w' => Below w4.heap.size w4 w') (by kernel_rfl) ((Below.refl _ _).drew) (fun _ => ?_)
          rw [← HW5.out]
          refine take_0 (by kernel_rfl) (by kernel_rfl) (by kernel_rfl) (fun _ _ _ h => h) (yieldsIf_load_mid rfl 32 _ rfl g3 0 rfl (msgC m2 a2) _ (fun w' h => box_range (HBg3.out _ (hq4.trans (h.mono hq4.size)))) Try.underlying32 rfl size_msg) hq5 ?_
          simp only [Act.put, List.setIfInBounds_toArray, List.set_cons_zero, List.set_cons_succ]
          refine take_1 (v := ?vv1) (by kernel_rfl) (by kernel_rfl) (by kernel_rfl) (fun _ _ _ h => h) (Or.inl ⟨by rfl, ?hy1⟩) hq5 ?_
          case hy1 =>
            intro wX hSw
            have c18 := (HA.out _ (hb4.trans (hSw.mono hb4.size))).1
            go_simp
            try with_reducible rfl
          simp only [Act.put, List.setIfInBounds_toArray, List.set_cons_zero, List.set_cons_succ]
          refine take_2 (v := ?vv2) (by kernel_rfl) (by kernel_rfl) (by kernel_rfl) (fun _ _ _ h => h) (Or.inl ⟨by rfl, ?hy2⟩) hq5 ?_
          case hy2 =>
            intro wX hSw
            have c18 := (HA.out _ (hb4.trans (hSw.mono hb4.size))).1
            go_simp
            try with_reducible rfl
          simp only [Act.put, List.setIfInBounds_toArray, List.set_cons_zero, List.set_cons_succ]
          refine take_3 (v := ?vv3) (by kernel_rfl) (by kernel_rfl) (by kernel_rfl) (fun _ _ _ h => h) (Or.inl ⟨by rfl, ?hy3⟩) hq5 ?_
          case hy3 =>
            intro wX hSw
            have c18 := (HA.out _ (hb4.trans (hSw.mono hb4.size))).1
            go_simp
            try with_reducible rfl
          simp only [Act.put, List.setIfInBounds_toArray, List.set_cons_zero, List.set_cons_succ]
          refine take_4 (v := ?vv4) (by kernel_rfl) (by kernel_rfl) (by kernel_rfl) (fun _ _ _ h => h) (Or.inl ⟨by rfl, ?hy4⟩) hq5 ?_
          case hy4 =>
            intro wX hSw
            have c18 := (HA.out _ (hb4.trans (hSw.mono hb4.size))).1
            go_simp
            try with_reducible rfl
          simp only [Act.put, List.setIfInBounds_toArray, List.set_cons_zero, List.set_cons_succ]
          refine take_5 (v := ?vv5) (by kernel_rfl) (by kernel_rfl) (by kernel_rfl) (fun _ _ _ h => h) (Or.inl ⟨by rfl, ?hy5⟩) hq5 ?_
          case hy5 =>
            intro wX hSw
            have c18 := (HA.out _ (hb4.trans (hSw.mono hb4.size))).1
            go_simp
            try with_reducible rfl
          simp only [Act.put, List.setIfInBounds_toArray, List.set_cons_zero, List.set_cons_succ]
          refine ready_6 (by kernel_rfl) ?_
          intro K hK
          rw [if_pos (by rfl)]
          try go_simp
          refine (C.enc_yes m2 a2 N _ HV2.out (HI2.out _ (hqw3.trans ((hq4.trans (hq5.mono hq4.size)).mono hqw3.size))) HOK2.out HF2.out HN.out).mono ?_
          rintro e w6 ⟨v6, rfl, ho6, hq6⟩
          have hs6 : Below w4.heap.size w4 w6 := hq5.trans (hq6.mono hq5.size)
          have hb6 := hb4.trans (hs6.mono hb4.size)
          have h36 := hq4.trans (hs6.mono hq4.size)
          refine hK.out _ _ hs6 (fun _ => ?_)
          clear hK K
          try simp only [Act.put, List.setIfInBounds_toArray, List.set_cons_zero, List.set_cons_succ]
          refine take_7 (v := ?vv7) (by kernel_rfl) (by kernel_rfl) (by kernel_rfl) (fun _ _ _ h => h) (Or.inl ⟨by rfl, ?hy7⟩) hs6 ?_
          case hy7 =>
            intro wX hSw
            have c18 := (HA.out _ (hb4.trans (hSw.mono hb4.size))).1
            go_simp
            try with_reducible rfl
          simp only [Act.put, List.setIfInBounds_toArray, List.set_cons_zero, List.set_cons_succ]
          refine take_8 (v := ?vv8) (by kernel_rfl) (by kernel_rfl) (by kernel_rfl) (fun _ _ _ h => h) (Or.inl ⟨by rfl, ?hy8⟩) hs6 ?_
          case hy8 =>
            intro wX hSw
            have c18 := (HA.out _ (hb4.trans (hSw.mono hb4.size))).1
            go_simp
            try with_reducible rfl
          simp only [Act.put, List.setIfInBounds_toArray, List.set_cons_zero, List.set_cons_succ]
          refine take_9 (v := ?vv9) (by kernel_rfl) (by kernel_rfl) (by kernel_rfl) (fun _ _ _ h => h) (Or.inl ⟨by rfl, ?hy9⟩) hs6 ?_
          case hy9 =>
            intro wX hSw
            have c18 := (HA.out _ (hb4.trans (hSw.mono hb4.size))).1
            go_simp
            try with_reducible rfl
          simp only [Act.put, List.setIfInBounds_toArray, List.set_cons_zero, List.set_cons_succ]
          refine take_10 (v := ?vv10) (by kernel_rfl) (by kernel_rfl) (by kernel_rfl) (fun _ _ _ h => h) (Or.inl ⟨by rfl, ?hy10⟩) hs6 ?_
          case hy10 =>
            intro wX hSw
            have c18 := (HA.out _ (hb4.trans (hSw.mono hb4.size))).1
            go_simp
            try with_reducible rfl
          simp only [Act.put, List.setIfInBounds_toArray, List.set_cons_zero, List.set_cons_succ]
          refine take_11 (v := ?vv11) (by kernel_rfl) (by kernel_rfl) (by kernel_rfl) (fun _ _ _ h => h) (Or.inl ⟨by rfl, ?hy11⟩) hs6 ?_
          case hy11 =>
            intro wX hSw
            have c18 := (HA.out _ (hb4.trans (hSw.mono hb4.size))).1
            go_simp
            try with_reducible rfl
          simp only [Act.put, List.setIfInBounds_toArray, List.set_cons_zero, List.set_cons_succ]
          refine wpAnyH_done (by kernel_rfl) ?_ _
          have ho6b := own_conv (ys := u8s X) (n' := nX) ho6 (by rw [HZZ.out]) ((u8s_length _).trans (by rw [← HZZ.out]; exact HNX.out))
          obtain ⟨A6, d6, rfl, hd6, hm6, hr6, _, hl6⟩ := own_val ho6b
          clear hl6 ho6 ho6b
          go_wp2_with fail
          have c18 : ∀ x : Calm w6, x.val.cell? ⟨b, off + k * 20 + 18, none⟩ = some (.int .i64 N) := fun x => (HA.out _ (hb6.trans (x.ok.mono hb6.size))).1
          have c19 : ∀ x : Calm w6, x.val.cell? ⟨b, off + k * 20 + 19, none⟩ = some (.slice XA nX cX) := fun x => (HA.out _ (hb6.trans (x.ok.mono hb6.size))).2.1
          have HRX : Hid (∀ x : Calm w6, Rd x.val XA (u8s X)) := fun x => (HA.out _ (hb6.trans (x.ok.mono hb6.size))).2.2
          have HRG : Hid (∀ x : Calm w6, x.val.rangeAt g3 0 (msgC m2 a2)) := fun x => box_range (HBg3.out _ (h36.trans (x.ok.mono h36.size)))
          have HIG : Hid (∀ x : Calm w6, MsgIn x.val m2 a2) := fun x => HI2.out _ ((hqw3.trans (h36.mono hqw3.size)).trans (x.ok.mono (hqw3.trans (h36.mono hqw3.size)).size))
          refine wp_region_calm (by kernel_rfl) (by kernel_rfl) ?_
          repeat (first
            | (refine wpQuiet_load_mid 32 _ rfl g3 0 rfl rfl (msgC m2 a2) _ (fun w' hx => by obtain ⟨x, rfl⟩ := hx; exact HRG.out x) Try.underlying32 rfl size_msg ?_; simp only [Act.put, List.setIfInBounds_toArray, List.set_cons_succ, List.set_cons_zero])
            | go_big_quiet_step (first
              | (go_at_call 17; exact calm_same (mnum_any _ _))
              | (go_at_call 24; exact calm_drew (eqBytes_is true A6 XA d6 cX nX nX X X _ (by simp) HNX.out HNX.out (hr6.below (Calm.ok _)) (HRX.out _) (by omega) (by omega)))
              | (go_at_call 19; exact calm_tells (rmsg_is true m2 a2 N _ HV2.out (HIG.out _) HF2.out))))
          refine wpQuiet_nil ?_
          rintro _ ⟨x, rfl⟩
          have hb7 := hb6.trans (x.ok.mono hb6.size)
          go_wp2_with fail
          go_roundw
          case rel => exact ⟨k + 1, by go_num, by omega, by omega, hb7⟩
          case measure => simp [intOf]; omega
      · have i2 : ¬ ((k : Int) < 8) := by omega
        have i1 : (k : Int) < (len : Int) := by omega
        go_wp2_with fail
        refine (mwakes_any HC.out C _).mono ?_
        rintro e w' ⟨rfl, hbw⟩
        go_wp2_with fail
        go_ret
        exact ⟨rfl, hb.trans (hbw.mono hb.size)⟩
    · have i1 : ¬ ((k : Int) < (len : Int)) := by omega
      go_wp2_with fail
      refine (mwakes_any HC.out C _).mono ?_
      rintro e w' ⟨rfl, hbw⟩
      go_wp2_with fail
      go_ret
      exact ⟨rfl, hb.trans (hbw.mono hb.size)⟩

end Go.Proofs.Ytafkcofocjellaa
