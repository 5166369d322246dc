/-
  The laws' spoils of a header and of a certificate: only their own lists turn.
-/
import Derived.Test.YtejkeccoialogaaHCopy
import Derived.Test.YtejkeccoialogaaSl
import Derived.Deep.DeepCutAuto
import Derived.Deep.CutRange
namespace Go.Proofs.Ytejkeccoialogaa
open Go.RowKit

set_option maxRecDepth 100000 in
set_option maxHeartbeats 4000000 in
theorem spoilHdr_far (a r : Int) (AB : Option Addr) (nB cB : Nat) (LB : List Int) (AP : Option Addr) (nP cP : Nat) (LP : List Int) (B0 : Nat) (w : World) (hnB : nB ≤ 1000000) (hoB : w.ownsRow B0 3 1 (.slice AB nB cB) nB (i64s LB)) (hnP : nP ≤ 1000000) (hoP : w.ownsRow B0 3 1 (.slice AP nP cP) nP (i64s LP)) (hd : (∀ k, (Value.slice AB nB cB).ownBlock = some k → (Value.slice AP nP cP).ownBlock ≠ some k)) (F : Nat → Prop) (hF : ∀ k, ((Value.slice AB nB cB).ownBlock = some k ∨ (Value.slice AP nP cP).ownBlock = some k) → F k) :
    Calls Try.prog 90 #[.agg #[.int .i64 a, .int .i64 r, .slice AB nB cB, .slice AP nP cP]] w fun e w' => e = .returned (.tuple #[]) ∧ Touch F w w' := by
  obtain ⟨g, hg⟩ : ∃ g, g = w.heap.size := ⟨_, rfl⟩
  obtain ⟨wa0, hwa0⟩ : ∃ wa0, wa0 = w.alloc (.cells #[.int .i64 a, .int .i64 r, .slice AB nB cB, .slice AP nP cP] 35) := ⟨_, rfl⟩
  have hs0 : wa0.heap.size = g + 1 := by rw [hwa0]; simp; omega
  have bn0 : Box wa0 (g) ([.int .i64 a, .int .i64 r, .slice AB nB cB, .slice AP nP cP]) := by rw [hwa0, hg]; exact box_new w ([.int .i64 a, .int .i64 r, .slice AB nB cB, .slice AP nP cP]) 35
  have hb0 : Below g w wa0 := by rw [hwa0]; exact (Below.refl _ _).alloc (by omega) _
  have HX0 : Hid (Box wa0 (g) ([.int .i64 a, .int .i64 r, .slice AB nB cB, .slice AP nP cP])) := bn0
  obtain ⟨w0, hw0⟩ : ∃ w0, w0 = wa0 := ⟨_, rfl⟩
  rw [← hw0] at HX0
  have hsz0 : w0.heap.size = g + 1 := by rw [hw0]; exact hs0
  have hb0w : Below g w w0 := by rw [hw0]; exact hb0
  have HW0 : Hid (w.alloc (.cells #[.int .i64 a, .int .i64 r, .slice AB nB cB, .slice AP nP cP] 35) = w0) := by show w.alloc (.cells #[.int .i64 a, .int .i64 r, .slice AB nB cB, .slice AP nP cP] 35) = w0; rw [hw0, hwa0]
  have HG : Hid (w.heap.size = g) := hg.symm
  have HS0 := Lib.hid hsz0
  have HB0 := Lib.hid hb0w
  have hl0 : g < w0.heap.size := by omega
  have hgw : g ≤ w0.heap.size := by omega
  have HFF := Lib.hid hF
  have hbw0 : Below w.heap.size w w0 := by rw [HG.out]; exact HB0.out
  have hoB' := ownS_below hoB hbw0
  have hoP' := ownS_below hoP hbw0
  have HLB : Hid (∀ k, (Value.slice AB nB cB).ownBlock = some k → k < g) := by show ∀ k, _; intro k hk; rw [← HG.out]; exact (own_lt hoB hk).1
  have HLP : Hid (∀ k, (Value.slice AP nP cP).ownBlock = some k → k < g) := by show ∀ k, _; intro k hk; rw [← HG.out]; exact (own_lt hoP hk).1
  have HSB := Lib.hid (spoilNums_far B0 (.slice AB nB cB) nB LB w0 hoB' (by omega))
  have HOP := Lib.hid hoP'
  have HD := Lib.hid hd
  clear hg hsz0 hb0w hw0 hwa0 hs0 bn0 hb0
  clear hF hbw0 hoB hoP hoB' hoP' hd
  go_enter Try.func90, Try.ntmps90
  go_upto_region 1 with fail
  rw [HG.out, HW0.out]
  have k2 : w0.cell? ⟨g, 2, none⟩ = some (.slice AB nB cB) := (HX0.out.2 2 _ rfl).1
  go_upto_region 2 with (go_at_call 38; refine HSB.out.mono ?_; rintro e w1 ⟨rfl, ht1⟩)
  have HT1 : Hid (Touch (fun k => (Value.slice AB nB cB).ownBlock = some k) w0 w1) := ht1
  have hbx1 := HX0.out.touch ht1 (fun e => by have := HLB.out g e; omega)
  have k3 : w1.cell? ⟨g, 3, none⟩ = some (.slice AP nP cP) := (hbx1.2 3 _ rfl).1
  have hg1 : g < w1.heap.size := hbx1.1
  have HSP := Lib.hid (spoilNums_far B0 (.slice AP nP cP) nP LP w1 (own_kept HOP.out fun j hj hl => ht1.block j hl fun e => HD.out j e hj) (by omega))
  clear ht1 hbx1 k2
  go_wp2_with (go_at_call 38; refine HSP.out.mono ?_; rintro e w2 ⟨rfl, ht2⟩)
  have hT : Touch F w w2 := ((Touch.of (show Below w.heap.size w w0 by rw [HG.out]; exact HB0.out)).on (HT1.out.mono fun j hj => HFF.out j (.inl hj))).on (ht2.mono fun j hj => HFF.out j (.inr hj))
  go_end0
  exact ⟨rfl, hT⟩
set_option maxRecDepth 100000 in
set_option maxHeartbeats 4000000 in
theorem spoilCert_far (a r d : Int) (AB : Option Addr) (nB cB : Nat) (LB : List Int) (AP : Option Addr) (nP cP : Nat) (LP : List Int) (AS : Option Addr) (nS cS : Nat) (LS : List Int) (B0 : Nat) (w : World) (hnB : nB ≤ 1000000) (hoB : w.ownsRow B0 3 1 (.slice AB nB cB) nB (i64s LB)) (hnP : nP ≤ 1000000) (hoP : w.ownsRow B0 3 1 (.slice AP nP cP) nP (i64s LP)) (hnS : nS ≤ 1000000) (hoS : w.ownsRow B0 3 1 (.slice AS nS cS) nS (i64s LS)) (hd1 : (∀ k, (Value.slice AB nB cB).ownBlock = some k → (Value.slice AP nP cP).ownBlock ≠ some k)) (hd2 : (∀ k, (Value.slice AB nB cB).ownBlock = some k → (Value.slice AS nS cS).ownBlock ≠ some k)) (hd3 : (∀ k, (Value.slice AP nP cP).ownBlock = some k → (Value.slice AS nS cS).ownBlock ≠ some k)) (F : Nat → Prop) (hF : ∀ k, ((Value.slice AB nB cB).ownBlock = some k ∨ (Value.slice AP nP cP).ownBlock = some k ∨ (Value.slice AS nS cS).ownBlock = some k) → F k) :
    Calls Try.prog 60 #[.agg #[.int .i64 a, .int .i64 r, .slice AB nB cB, .slice AP nP cP, .int .i64 d, .slice AS nS cS]] w fun e w' => e = .returned (.tuple #[]) ∧ Touch F w w' := by
  obtain ⟨g, hg⟩ : ∃ g, g = w.heap.size := ⟨_, rfl⟩
  obtain ⟨wa0, hwa0⟩ : ∃ wa0, wa0 = w.alloc (.cells #[.int .i64 a, .int .i64 r, .slice AB nB cB, .slice AP nP cP, .int .i64 d, .slice AS nS cS] 37) := ⟨_, rfl⟩
  have hs0 : wa0.heap.size = g + 1 := by rw [hwa0]; simp; omega
  have bn0 : Box wa0 (g) ([.int .i64 a, .int .i64 r, .slice AB nB cB, .slice AP nP cP, .int .i64 d, .slice AS nS cS]) := by rw [hwa0, hg]; exact box_new w ([.int .i64 a, .int .i64 r, .slice AB nB cB, .slice AP nP cP, .int .i64 d, .slice AS nS cS]) 37
  have hb0 : Below g w wa0 := by rw [hwa0]; exact (Below.refl _ _).alloc (by omega) _
  have HX0 : Hid (Box wa0 (g) ([.int .i64 a, .int .i64 r, .slice AB nB cB, .slice AP nP cP, .int .i64 d, .slice AS nS cS])) := bn0
  obtain ⟨w0, hw0⟩ : ∃ w0, w0 = wa0 := ⟨_, rfl⟩
  rw [← hw0] at HX0
  have hsz0 : w0.heap.size = g + 1 := by rw [hw0]; exact hs0
  have hb0w : Below g w w0 := by rw [hw0]; exact hb0
  have HW0 : Hid (w.alloc (.cells #[.int .i64 a, .int .i64 r, .slice AB nB cB, .slice AP nP cP, .int .i64 d, .slice AS nS cS] 37) = w0) := by show w.alloc (.cells #[.int .i64 a, .int .i64 r, .slice AB nB cB, .slice AP nP cP, .int .i64 d, .slice AS nS cS] 37) = w0; rw [hw0, hwa0]
  have HG : Hid (w.heap.size = g) := hg.symm
  have HS0 := Lib.hid hsz0
  have HB0 := Lib.hid hb0w
  have hl0 : g < w0.heap.size := by omega
  have hgw : g ≤ w0.heap.size := by omega
  have HFF := Lib.hid hF
  have hbw0 : Below w.heap.size w w0 := by rw [HG.out]; exact HB0.out
  have hoB' := ownS_below hoB hbw0
  have hoP' := ownS_below hoP hbw0
  have hoS' := ownS_below hoS hbw0
  have HLB : Hid (∀ k, (Value.slice AB nB cB).ownBlock = some k → k < g) := by show ∀ k, _; intro k hk; rw [← HG.out]; exact (own_lt hoB hk).1
  have HLP : Hid (∀ k, (Value.slice AP nP cP).ownBlock = some k → k < g) := by show ∀ k, _; intro k hk; rw [← HG.out]; exact (own_lt hoP hk).1
  have HSH := Lib.hid (spoilHdr_far a r AB nB cB LB AP nP cP LP B0 w0 hnB hoB' hnP hoP' hd1 (fun k => (Value.slice AB nB cB).ownBlock = some k ∨ (Value.slice AP nP cP).ownBlock = some k) (fun k hk => hk))
  have HOS := Lib.hid hoS'
  have HD2 := Lib.hid hd2
  have HD3 := Lib.hid hd3
  clear hg hsz0 hb0w hw0 hwa0 hs0 bn0 hb0
  clear hF hbw0 hoB hoP hoS hoB' hoP' hoS' hd1 hd2 hd3
  go_enter Try.func60, Try.ntmps60
  go_upto_region 1 with fail
  rw [HG.out, HW0.out]
  have k0 : w0.cell? ⟨g, 0, none⟩ = some (.int .i64 a) := (HX0.out.2 0 _ rfl).1
  have k1 : w0.cell? ⟨g, 1, none⟩ = some (.int .i64 r) := (HX0.out.2 1 _ rfl).1
  have k2 : w0.cell? ⟨g, 2, none⟩ = some (.slice AB nB cB) := (HX0.out.2 2 _ rfl).1
  have k3 : w0.cell? ⟨g, 3, none⟩ = some (.slice AP nP cP) := (HX0.out.2 3 _ rfl).1
  go_upto_region 2 with (go_at_call 90; refine HSH.out.mono ?_; rintro e w1 ⟨rfl, ht1⟩)
  have ht1' : Touch (fun k => (Value.slice AB nB cB).ownBlock = some k ∨ (Value.slice AP nP cP).ownBlock = some k) w0 w1 := ht1
  have HT1 := Lib.hid ht1'
  have hbx1 := HX0.out.touch ht1' (by
    rintro (e | e)
    · have := HLB.out g e; omega
    · have := HLP.out g e; omega)
  have k5 : w1.cell? ⟨g, 5, none⟩ = some (.slice AS nS cS) := (hbx1.2 5 _ rfl).1
  have hg1 : g < w1.heap.size := hbx1.1
  have HSS := Lib.hid (spoilNums_far B0 (.slice AS nS cS) nS LS w1 (own_kept HOS.out fun j hj hl => ht1'.block j hl (by
    rintro (e | e)
    · exact HD2.out j e hj
    · exact HD3.out j e hj)) (by omega))
  clear ht1 ht1' hbx1 k0 k1 k2 k3
  go_wp2_with (go_at_call 38; refine HSS.out.mono ?_; rintro e w2 ⟨rfl, ht2⟩)
  have hT : Touch F w w2 := ((Touch.of (show Below w.heap.size w w0 by rw [HG.out]; exact HB0.out)).on (HT1.out.mono fun j hj => HFF.out j (hj.imp id .inl))).on (ht2.mono fun j hj => HFF.out j (.inr (.inr hj)))
  go_end0
  exact ⟨rfl, hT⟩

end Go.Proofs.Ytejkeccoialogaa
