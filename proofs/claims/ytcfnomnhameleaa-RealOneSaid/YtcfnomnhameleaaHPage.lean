/-
  The page's own walks on headers: certificates that may be, weights, a header's bytes.
-/
import Derived.Test.YtcfnomnhameleaaHCopy
import Derived.Test.YtcfnomnhameleaaZB
import Derived.Test.YtcfnomnhameleaaZA
import Derived.BigRegion
namespace Go.Proofs.Ytcfnomnhameleaa
open Go.RowKit

/-- the cells of a certificate in a block, in every later world -/
def CBox (w : World) (g : Nat) (a r : Int) (vB vP : Value) (d : Int) (vS : Value) : Prop :=
  w.cell? ⟨g, 0, none⟩ = some (.int .i64 a) ∧ w.cell? ⟨g, 1, none⟩ = some (.int .i64 r) ∧ w.cell? ⟨g, 2, none⟩ = some vB ∧ w.cell? ⟨g, 3, none⟩ = some vP ∧ w.cell? ⟨g, 4, none⟩ = some (.int .i64 d) ∧ w.cell? ⟨g, 5, none⟩ = some vS
theorem cbox_new {w w1 : World} {a r d : Int} {vB vP vS : Value} (h : w1 = w.alloc (.cells #[.int .i64 a, .int .i64 r, vB, vP, .int .i64 d, vS] 40)) : ∀ wX, Below w1.heap.size w1 wX → CBox wX w.heap.size a r vB vP d vS := by
  subst h
  intro wX hb
  have hs : w.heap.size < (w.alloc (.cells #[.int .i64 a, .int .i64 r, vB, vP, .int .i64 d, vS] 40)).heap.size := by simp
  refine ⟨(hb.cell (p := ⟨w.heap.size, 0, none⟩) hs).trans ?_, (hb.cell (p := ⟨w.heap.size, 1, none⟩) hs).trans ?_, (hb.cell (p := ⟨w.heap.size, 2, none⟩) hs).trans ?_, (hb.cell (p := ⟨w.heap.size, 3, none⟩) hs).trans ?_, (hb.cell (p := ⟨w.heap.size, 4, none⟩) hs).trans ?_, (hb.cell (p := ⟨w.heap.size, 5, none⟩) hs).trans ?_⟩
  all_goals
    rw [World.cell?_alloc_at _ _ _ _ rfl]
    rfl

set_option maxHeartbeats 2000000 in
theorem rcw_any (a r : Int) (AB : Option Addr) (cB nB : Nat) (AP : Option Addr) (cP nP : Nat) (d : Int) (AS : Option Addr) (cS nS : Nat) (w : World) (hnB : nB ≤ 140737488351232) (hnP : nP ≤ 140737488351232) (hnS : nS ≤ 140737488351232) :
    Calls Try.prog 82 #[.agg #[.int .i64 a, .int .i64 r, .slice AB nB cB, .slice AP nP cP, .int .i64 d, .slice AS nS cS]] w (Tells w.heap.size w (.int .i64 (((1 + nB + nP + nS : Nat) : Int)))) := by
  obtain ⟨w1, hw1⟩ : ∃ w1, w1 = w.alloc (.cells #[.int .i64 a, .int .i64 r, .slice AB nB cB, .slice AP nP cP, .int .i64 d, .slice AS nS cS] 40) := ⟨_, rfl⟩
  have hb1 : Below w.heap.size w w1 := by rw [hw1]; exact (Below.refl _ _).alloc (Nat.le_refl _) _
  have HC := Lib.hid (cbox_new hw1)
  obtain ⟨c0, c1, c2, c3, c4, c5⟩ := HC.out _ (Below.refl _ _)
  have HW := Lib.hid hw1
  clear hw1
  go_enter Try.func82, Try.ntmps82
  go_wp2_with fail
  rw [← HW.out]
  first
    | (go_region_with (first
        | (go_at_call 81; refine (rhw_any a r AB cB nB AP cP nP _ hnB hnP).mono ?_; rintro e w2 ⟨rfl, hb2⟩; have hx2 : Below w1.heap.size w1 w2 := (by first | exact hb2 | exact ((Below.refl _ _).drew).trans hb2); obtain ⟨e0, e1, e2, e3, e4, e5⟩ := HC.out _ hx2)))
    | fail
  all_goals
    go_wp2_with fail
    go_ret
    exact ⟨ret_int (by rw [IntWalk.i64_in _ (by omega)]; omega), hb1.trans (hx2.mono hb1.size)⟩

/-- whether it is let go; if not it weighs little -/
def HHeavy (nB nP nS nX : Nat) (w : World) (en : Ending) (w' : World) : Prop := ∃ b : Bool, en = .returned (.bool b) ∧ Below w.heap.size w w' ∧ (b = false → nB + nP + nS ≤ 499 ∧ nX ≤ 5000)
set_option maxRecDepth 100000 in
set_option maxHeartbeats 4000000 in
theorem rheadBytes_any (a r : Int) (AB : Option Addr) (cB nB : Nat) (B : List Int) (AP : Option Addr) (cP nP : Nat) (P : List Int) (w : World) (h : wideB a r B P = true) (hzB : B.length = nB) (hrB : Rd w AB (i64s B)) (hzP : P.length = nP) (hrP : Rd w AP (i64s P)) :
    Calls Try.prog 31 #[.agg #[.int .i64 a, .int .i64 r, .slice AB nB cB, .slice AP nP cP]] w (Made w.heap.size 5 w (u8s (headBytes a r B P))) := by
  obtain ⟨⟨a0, a1⟩, ⟨r0, r1⟩, ⟨b0, b1⟩, p0, p1⟩ := wide_all h
  have hfit := head_fit h
  have hsmB := toN_small b1
  have hsmP := toN_small p1
  have hlB : (toN B).length = nB := by rw [toN_length]; exact hzB
  have hlP : (toN P).length = nP := by rw [toN_length]; exact hzP
  have hnB : nats (toN B) = B := nats_toN fun x hx => by have := b1 x hx; omega
  have hnP : nats (toN P) = P := nats_toN fun x hx => by have := p1 x hx; omega
  have hpB : (putNums (toN B)).length ≤ 153 := by rw [← numsT_size]; exact numsT_small b1 (by omega)
  have hpP : (putNums (toN P)).length ≤ 153 := by rw [← numsT_size]; exact numsT_small p1 p0
  obtain ⟨w1, hw1⟩ : ∃ w1, w1 = w.alloc (.cells #[.int .i64 a, .int .i64 r, .slice AB nB cB, .slice AP nP cP] 38) := ⟨_, rfl⟩
  have hb1 : Below w.heap.size w w1 := by rw [hw1]; exact (Below.refl _ _).alloc (Nat.le_refl _) _
  have hs1 : w.heap.size < w1.heap.size := by rw [hw1]; simp
  have k0 : w1.cell? ⟨w.heap.size, 0, none⟩ = some (.int .i64 a) := by rw [hw1, World.cell?_alloc_at _ _ _ _ rfl]; rfl
  have k1 : w1.cell? ⟨w.heap.size, 1, none⟩ = some (.int .i64 r) := by rw [hw1, World.cell?_alloc_at _ _ _ _ rfl]; rfl
  have k3 : w1.cell? ⟨w.heap.size, 3, none⟩ = some (.slice AP nP cP) := by rw [hw1, World.cell?_alloc_at _ _ _ _ rfl]; rfl
  have HP : Hid (∀ wX, Below w1.heap.size w1 wX → wX.cell? ⟨w.heap.size, 0, none⟩ = some (.int .i64 a) ∧ wX.cell? ⟨w.heap.size, 1, none⟩ = some (.int .i64 r)) := fun wX h => ⟨(h.cell (p := ⟨w.heap.size, 0, none⟩) hs1).trans k0, (h.cell (p := ⟨w.heap.size, 1, none⟩) hs1).trans k1⟩
  have HP3 : Hid (∀ wX, Below w1.heap.size w1 wX → wX.cell? ⟨w.heap.size, 3, none⟩ = some (.slice AP nP cP)) := fun wX h => (h.cell (p := ⟨w.heap.size, 3, none⟩) hs1).trans k3
  have hrB1 : Rd w1 AB (i64s (nats (toN B))) := by rw [hnB]; exact hrB.below hb1
  have HRP : Hid (∀ wX, Below w1.heap.size w1 wX → Rd wX AP (i64s (nats (toN P)))) := fun wX hx => by rw [hnP]; exact (hrP.below hb1).below hx
  have HW := Lib.hid hw1
  have HLB := Lib.hid hlB
  have HLP := Lib.hid hlP
  have HSB := Lib.hid hsmB
  have HSP := Lib.hid hsmP
  have HPB := Lib.hid hpB
  have HPP := Lib.hid hpP
  have HFIT := Lib.hid hfit
  have hnB8 : nB ≤ 8 := by omega
  have hnP16 : nP ≤ 16 := by omega
  clear hw1 hlB hlP hsmB hsmP hpB hpP hfit hnB hnP b1 p1 b0 p0 k0 k1 k3 h hzB hzP
  go_enter Try.func31, Try.ntmps31
  go_wp2_with fail
  rw [← HW.out]
  refine (rnums_yes AB cB nB (toN B) _ HLB.out hrB1 (by omega) HSB.out (by have := HPB.out; omega)).mono ?_
  rintro e w2 ⟨v2, rfl, ho2, hb2⟩
  obtain ⟨lB, hlB⟩ : ∃ lB, (putNums (toN B)).length = lB := ⟨_, rfl⟩
  have ho2b := own_cast ho2 ((u8s_length _).trans hlB)
  obtain ⟨A2, c2, rfl, _, _, hr2, _, _⟩ := own_val ho2b
  have HLB2 := Lib.hid hlB
  have k3 := HP3.out _ hb2
  clear ho2 ho2b hlB
  go_wp2_with fail
  refine (rnums_yes AP cP nP (toN P) _ HLP.out (HRP.out _ hb2) (by omega) HSP.out (by have := HPP.out; omega)).mono ?_
  rintro e w3 ⟨v3, rfl, ho3, hb3⟩
  obtain ⟨lP, hlP⟩ : ∃ lP, (putNums (toN P)).length = lP := ⟨_, rfl⟩
  have ho3b := own_cast ho3 ((u8s_length _).trans hlP)
  obtain ⟨A3, c3, rfl, _, _, hr3, _, _⟩ := own_val ho3b
  have HLP2 := Lib.hid hlP
  have hx3 := hb2.trans (hb3.mono hb2.size)
  have HR2 : Hid (∀ wX, Below w3.heap.size w3 wX → Rd wX A2 (u8s (putNums (toN B)))) := fun wX hx => (hr2.below hb3).below hx
  have HR3 : Hid (∀ wX, Below w3.heap.size w3 wX → Rd wX A3 (u8s (putNums (toN P)))) := fun wX hx => hr3.below hx
  have HX3 := Lib.hid hx3
  obtain ⟨k0, k1⟩ := HP.out _ hx3
  clear ho3 ho3b hlP k3 hr2 hr3 hb2 hb3
  have HVB : Hid (∀ wX, Below w3.heap.size w3 wX → (convert 60 9 (.slice A2 lB c2)).run Try.prog wX = .ok (.string (numsT B)) wX) := fun wX hx => conv_rd wX HLB2.out (by rw [← HLB2.out, putNums, List.length_append]; have := vnum_pos (toN B).length; omega) (HR2.out wX hx) 60 5 9 Try.underlying60 Try.underlying5 Try.underlying9 c2
  have HVP : Hid (∀ wX, Below w3.heap.size w3 wX → (convert 60 9 (.slice A3 lP c3)).run Try.prog wX = .ok (.string (numsT P)) wX) := fun wX hx => conv_rd wX HLP2.out (by rw [← HLP2.out, putNums, List.length_append]; have := vnum_pos (toN P).length; omega) (HR3.out wX hx) 60 5 9 Try.underlying60 Try.underlying5 Try.underlying9 c3
  have hvB := HVB.out _ (Below.refl _ _)
  have hvP := HVP.out _ (Below.refl _ _)
  have hvBd := HVB.out _ (Below.refl _ _).drew
  have hvPd := HVP.out _ (Below.refl _ _).drew
  go_wp2_with fail
  go_region_held (fun w' => w'.cell? ⟨w.heap.size, 0, none⟩ = some (.int .i64 a) ∧ w'.cell? ⟨w.heap.size, 1, none⟩ = some (.int .i64 r))
    (first | assumption | go_keep)
    (first
      | (go_at_call 59; refine (rnumT_any _ _ (by omega) (by omega)).mono ?_; rintro e w5 ⟨rfl, hb5⟩; have hx5 : Below w3.heap.size w3 w5 := (by first | exact (hx4.drew.trans (hb5.mono hx4.size)) | exact (hx4.trans (hb5.mono hx4.size))); have hS5 := HP.out _ (HX3.out.trans (hx5.mono HX3.out.size)); have hvB5 := HVB.out _ hx5; have hvP5 := HVP.out _ hx5)
      | (go_at_call 59; refine (rnumT_any _ _ (by omega) (by omega)).mono ?_; rintro e w4 ⟨rfl, hb4⟩; have hx4 : Below w3.heap.size w3 w4 := (by first | exact hb4 | exact ((Below.refl _ _).drew).trans hb4); have hS4 := HP.out _ (HX3.out.trans (hx4.mono HX3.out.size)); have hvB4 := HVB.out _ hx4; have hvP4 := HVP.out _ hx4)
      | (go_at_call 58; refine (rput_yes _ _ 5 (headTexts a r B P) _ rfl (by exact rd_new w5 (strs (headTexts a r B P)) _) (by omega) HFIT.out).mono ?_; rintro e w6 ⟨v6, rfl, ho6, hb6⟩; have hx6 : Below w3.heap.size w3 w6 := (hx5.alloc hx5.size _).trans (hb6.mono (hx5.alloc hx5.size _).size); have hS6 := HP.out _ (HX3.out.trans (hx6.mono HX3.out.size))))
  all_goals
    go_wp2_with fail
    go_ret
    exact ⟨v6, rfl, ownS_more ho6 (by have := hx5.size; have := HX3.out.size; simp; omega), hb1.trans ((HX3.out.trans (hx6.mono HX3.out.size)).mono (by omega))⟩

end Go.Proofs.Ytcfnomnhameleaa
