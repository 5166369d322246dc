/-
  The walk of 'HeaderChecks', out of what it asks of package header.
-/
import Derived.Test.YtkgbnohmhjljoaaHPage
import Derived.Test.YtkgbnohmhjljoaaHAsk
import Derived.Test.YtkgbnohmhjljoaaHCert
import Derived.Test.YtkgbnohmhjljoaaHCopy
import Derived.Test.YtkgbnohmhjljoaaCalm
namespace Go.Proofs.Ytkgbnohmhjljoaa
open Go.RowKit

/-- the cells of what is asked in a block, in every later world -/
def ABox (w : World) (g : Nat) (a r : Int) (vB vP : Value) (d : Int) (vS : Value) (N : Int) (vX : Value) : Prop :=
  w.cell? ⟨g, 0, none⟩ = some (.int .i64 a) ∧ w.cell? ⟨g, 1, none⟩ = some (.int .i64 r) ∧ w.cell? ⟨g, 2, none⟩ = some vB ∧ w.cell? ⟨g, 3, none⟩ = some vP ∧ w.cell? ⟨g, 4, none⟩ = some (.int .i64 d) ∧ w.cell? ⟨g, 5, none⟩ = some vS ∧ w.cell? ⟨g, 6, none⟩ = some (.int .i64 N) ∧ w.cell? ⟨g, 7, none⟩ = some vX
theorem abox_new {w w1 : World} {a r d N : Int} {vB vP vS vX : Value} (h : w1 = w.alloc (.cells #[.int .i64 a, .int .i64 r, vB, vP, .int .i64 d, vS, .int .i64 N, vX] 30)) : ∀ wX, Below w1.heap.size w1 wX → ABox wX w.heap.size a r vB vP d vS N vX := by
  subst h
  intro wX hb
  have hs : w.heap.size < (w.alloc (.cells #[.int .i64 a, .int .i64 r, vB, vP, .int .i64 d, vS, .int .i64 N, vX] 30)).heap.size := by simp
  refine ⟨(hb.cell (p := ⟨w.heap.size, 0, none⟩) hs).trans ?_, (hb.cell (p := ⟨w.heap.size, 1, none⟩) hs).trans ?_, (hb.cell (p := ⟨w.heap.size, 2, none⟩) hs).trans ?_, (hb.cell (p := ⟨w.heap.size, 3, none⟩) hs).trans ?_, (hb.cell (p := ⟨w.heap.size, 4, none⟩) hs).trans ?_, (hb.cell (p := ⟨w.heap.size, 5, none⟩) hs).trans ?_, (hb.cell (p := ⟨w.heap.size, 6, none⟩) hs).trans ?_, (hb.cell (p := ⟨w.heap.size, 7, none⟩) hs).trans ?_⟩
  all_goals
    rw [World.cell?_alloc_at _ _ _ _ rfl]
    rfl

set_option maxRecDepth 100000 in
set_option maxHeartbeats 40000000 in
theorem headerChecks_walk (K : HContracts) (a : Option Addr) (len cap : Nat) (w : World) (ha : HAsks w a len cap) :
    Calls Try.prog 3 #[.slice a len cap] w fun e w' => e = .returned (.bool true) ∧ Below w.heap.size w w' := by
  obtain ⟨hl, hm, hi⟩ := ha
  unfold maxLen at hm
  have HI := Lib.hid hi
  clear hi
  go_enter Try.func3, Try.ntmps3
  go_wp2_with fail
  go_loopw [3] (fun i wr => ∃ k : Nat, i = .int .i64 k ∧ k ≤ len ∧ k ≤ 8 ∧ Below w.heap.size w wr) (fun i _ => 8 - (intOf i).toNat)
  case atStart => exact ⟨0, rfl, by omega, by omega, Below.refl _ _⟩
  case round =>
    obtain ⟨k, rfl, hk, hkm, hb⟩ := hrel
    by_cases hlt : k < len
    · by_cases hmo : k < 8
      · have i0 : (0 : Int) ≤ (k : Int) := by omega
        have i1 : (k : Int) < (len : Int) := by omega
        have i2 : (k : Int) < 8 := by omega
        obtain ⟨b, off, ⟨ba, br, BA, cB, B, PA, cP, P, bd, SA, cS, S, N, XA, cX, X⟩, nB, nP, nS, nX, rfl, (hnB : B.length = nB), (hnP : P.length = nP), (hnS : S.length = nS), (hnX : X.length = nX), hA⟩ := (HI.out k hlt).all
        have HNB := Lib.hid hnB
        have HNP := Lib.hid hnP
        have HNS := Lib.hid hnS
        have HNX := Lib.hid hnX
        clear hnB hnP hnS hnX
        have hXc : nX ≤ cX := by have := (hA _ hb).1.hX; have := HNX.out; simp only at *; omega
        have hXm : cX ≤ maxLen := (hA _ hb).1.mX
        have hBc : nB ≤ cB := by have := (hA _ hb).1.nB.hc; have := HNB.out; simp only at *; omega
        have hPc : nP ≤ cP := by have := (hA _ hb).1.nP.hc; have := HNP.out; simp only at *; omega
        have hSc : nS ≤ cS := by have := (hA _ hb).1.nS.hc; have := HNS.out; simp only at *; omega
        have hBz : nB ≤ 140737488351232 := by have := (hA _ hb).1.zB; have := HNB.out; simp only at *; omega
        have hPz : nP ≤ 140737488351232 := by have := (hA _ hb).1.zP; have := HNP.out; simp only at *; omega
        have hSz : nS ≤ 140737488351232 := by have := (hA _ hb).1.zS; have := HNS.out; simp only at *; omega
        obtain ⟨ws, hws⟩ : ∃ ws, ws = wr.alloc (.cells #[.int .i64 ba, .int .i64 br, .slice BA nB cB, .slice PA nP cP, .int .i64 bd, .slice SA nS cS, .int .i64 N, .slice XA nX cX] 30) := ⟨_, rfl⟩
        have HAB := Lib.hid (abox_new hws)
        have hb0 : Below w.heap.size w ws := by rw [hws]; exact hb.alloc hb.size _
        have HA := Lib.hid (fun wX (h : Below ws.heap.size ws wX) => hA wX (hb0.trans (h.mono hb0.size)))
        obtain ⟨ok, c0, c1, c2, c3, c4, c5, c6, c7⟩ := hA _ hb
        obtain ⟨d0, d1, d2, d3, d4, d5, d6, d7⟩ := abox_new (w := wr) (rfl : wr.alloc (.cells #[.int .i64 ba, .int .i64 br, .slice BA nB cB, .slice PA nP cP, .int .i64 bd, .slice SA nS cS, .int .i64 N, .slice XA nX cX] 30) = _) _ (Below.refl _ _)
        try simp only at c0 c1 c2 c3 c4 c5 c6 c7 d0 d1 d2 d3 d4 d5 d6 d7
        go_wp2_with fail
        rw [← hws]
        clear c0 c1 c2 c3 c4 c5 c6 c7 d0 d1 d2 d3 d4 d5 d6 d7 ok hws hb
        have HAW := Lib.hid (hA w (Below.refl _ _))
        clear hA
        have HRB : Hid (∀ wX, Below ws.heap.size ws wX → Rd wX BA (i64s B)) := fun wX h => (HA.out _ h).1.nB.hr
        have HRP : Hid (∀ wX, Below ws.heap.size ws wX → Rd wX PA (i64s P)) := fun wX h => (HA.out _ h).1.nP.hr
        have HRS : Hid (∀ wX, Below ws.heap.size ws wX → Rd wX SA (i64s S)) := fun wX h => (HA.out _ h).1.nS.hr
        have HHI : Hid (nB ≤ 499 → nP ≤ 499 → ∀ wX, Below ws.heap.size ws wX → HdrIn wX BA cB nB B PA cP nP P) := fun h1 h2 wX h => by
          have ok := (HA.out _ h).1
          have e1 := HNB.out
          have e2 := HNP.out
          subst e1 e2
          exact ⟨ok.nB, ok.nP, by omega, by omega⟩
        refine (hheavy_any ba br BA cB nB PA cP nP bd SA cS nS N XA cX nX _ hBz hPz hSz).mono ?_
        rintro e w1 ⟨hv, rfl, hb1, hlight⟩
        have HLI := Lib.hid hlight
        clear hlight
        cases hv with
        | true =>
          go_wp2_with fail
          go_ret
          exact ⟨rfl, hb0.trans (hb1.mono hb0.size)⟩
        | false =>
          obtain ⟨hn3, hnX5⟩ := HLI.out rfl
          have HIN := Lib.hid (HHI.out (by omega) (by omega))
          have hnB9 : nB ≤ 499 := by omega
          have hnP9 : nP ≤ 499 := by omega
          have hnS9 : nS ≤ 499 := by omega
          clear HLI HHI hn3 hBz hPz hSz
          obtain ⟨s0, s1, s2, s3, s4, s5, s6, s7⟩ := HAB.out _ hb1
          obtain ⟨hiB, hiP, hiS, hiN⟩ : I64s B ∧ I64s P ∧ I64s S ∧ I64 N := by have ok := (HA.out _ hb1).1; exact ⟨ok.nB.hi, ok.nP.hi, ok.nS.hi, ok.wN⟩
          go_wp2_with fail
          refine (rcopyCert_any ba br BA cB nB B PA cP nP P bd SA cS nS S _ HNB.out (HRB.out _ hb1) (by omega) HNP.out (HRP.out _ hb1) (by omega) HNS.out (HRS.out _ hb1) (by omega) hBc hPc hSc).mono ?_
          rintro e w2 ⟨B2, cB2, P2, cP2, S2, cS2, rfl, hoB, hoP, hoS, hq2⟩
          have hb2 := hb1.trans (hq2.mono hb1.size)
          clear hq2 hb1 s0 s1 s2 s3 s4 s5 s6 s7
          obtain ⟨t0, t1, t2, t3, t4, t5, t6, t7⟩ := HAB.out _ hb2
          obtain ⟨wb, hwb⟩ : ∃ wx, wx = w2.alloc (.cells #[.int .i64 ba, .int .i64 br, .slice B2 nB cB2, .slice P2 nP cP2, .int .i64 bd, .slice S2 nS cS2] 27) := ⟨_, rfl⟩
          have HCB := Lib.hid (cbox_new hwb)
          have hbb : Below ws.heap.size ws wb := by rw [hwb]; exact hb2.alloc hb2.size _
          have hxb : Below w2.heap.size w2 wb := by rw [hwb]; exact (Below.refl _ _).alloc (Nat.le_refl _) _
          have hIB := (NumsIn.own hoB hiB).below hxb
          have hIP := (NumsIn.own hoP hiP).below hxb
          have hIS := (NumsIn.own hoS hiS).below hxb
          have HIB := Lib.hid hIB
          have HIP := Lib.hid hIP
          have HIS := Lib.hid hIS
          go_wp2_with fail
          rw [← hwb]
          clear hwb hxb hoB hoP hoS hb2 t0 t1 t2 t3 t4 t5 t6 t7 hIB hIP hIS hiB hiP hiS
          cases hv1 : hdrB ba br B P N with
          | true =>
            cases hv2 : certB ba br B P bd S N with
            | true =>
              have HV1 := Lib.hid hv1
              have HV2 := Lib.hid hv2
              clear hv1 hv2
              have q0 : ∀ x : Calm wb, x.val.cell? ⟨w2.heap.size, 0, none⟩ = some (.int .i64 ba) := fun x => (HCB.out _ (x.ok)).1
              have q1 : ∀ x : Calm wb, x.val.cell? ⟨w2.heap.size, 1, none⟩ = some (.int .i64 br) := fun x => (HCB.out _ (x.ok)).2.1
              have q2 : ∀ x : Calm wb, x.val.cell? ⟨w2.heap.size, 2, none⟩ = some (.slice B2 nB cB2) := fun x => (HCB.out _ (x.ok)).2.2.1
              have q3 : ∀ x : Calm wb, x.val.cell? ⟨w2.heap.size, 3, none⟩ = some (.slice P2 nP cP2) := fun x => (HCB.out _ (x.ok)).2.2.2.1
              have q4 : ∀ x : Calm wb, x.val.cell? ⟨w2.heap.size, 4, none⟩ = some (.int .i64 bd) := fun x => (HCB.out _ (x.ok)).2.2.2.2.1
              have q5 : ∀ x : Calm wb, x.val.cell? ⟨w2.heap.size, 5, none⟩ = some (.slice S2 nS cS2) := fun x => (HCB.out _ (x.ok)).2.2.2.2.2
              have t0 : ∀ x : Calm wb, x.val.cell? ⟨wr.heap.size, 0, none⟩ = some (.int .i64 ba) := fun x => (HAB.out _ (hbb.trans (x.ok.mono hbb.size))).1
              have t1 : ∀ x : Calm wb, x.val.cell? ⟨wr.heap.size, 1, none⟩ = some (.int .i64 br) := fun x => (HAB.out _ (hbb.trans (x.ok.mono hbb.size))).2.1
              have t2 : ∀ x : Calm wb, x.val.cell? ⟨wr.heap.size, 2, none⟩ = some (.slice BA nB cB) := fun x => (HAB.out _ (hbb.trans (x.ok.mono hbb.size))).2.2.1
              have t3 : ∀ x : Calm wb, x.val.cell? ⟨wr.heap.size, 3, none⟩ = some (.slice PA nP cP) := fun x => (HAB.out _ (hbb.trans (x.ok.mono hbb.size))).2.2.2.1
              have t4 : ∀ x : Calm wb, x.val.cell? ⟨wr.heap.size, 4, none⟩ = some (.int .i64 bd) := fun x => (HAB.out _ (hbb.trans (x.ok.mono hbb.size))).2.2.2.2.1
              have t5 : ∀ x : Calm wb, x.val.cell? ⟨wr.heap.size, 5, none⟩ = some (.slice SA nS cS) := fun x => (HAB.out _ (hbb.trans (x.ok.mono hbb.size))).2.2.2.2.2.1
              have t6 : ∀ x : Calm wb, x.val.cell? ⟨wr.heap.size, 6, none⟩ = some (.int .i64 N) := fun x => (HAB.out _ (hbb.trans (x.ok.mono hbb.size))).2.2.2.2.2.2.1
              refine wp_region_calm (by kernel_rfl) (by kernel_rfl) ?_
              repeat (go_big_quiet_step (first
                  | (go_at_call 11; exact calm_same (hnum_any _ _))
                  | (go_at_call 12; exact calm_tells (K.check_yes ba br B2 cB2 nB B P2 cP2 nP P N _ HV1.out ⟨HIB.out.below (Calm.ok _), HIP.out.below (Calm.ok _), by omega, by omega⟩ hiN))
                  | (go_at_call 13; exact calm_tells (K.cert_yes ba br B2 cB2 nB B P2 cP2 nP P bd S2 cS2 nS S N _ HV2.out ⟨HIB.out.below (Calm.ok _), HIP.out.below (Calm.ok _), by omega, by omega⟩ (HIS.out.below (Calm.ok _)) (by omega) hiN))))
              refine wpQuiet_nil ?_
              rintro _ ⟨x, rfl⟩
              obtain ⟨w3, hw3⟩ : ∃ w3, w3 = x.val := ⟨_, rfl⟩
              have hx3 : Below wb.heap.size wb w3 := by rw [hw3]; exact x.ok
              have hb3 : Below ws.heap.size ws w3 := hbb.trans (hx3.mono hbb.size)
              rw [← hw3]
              clear hw3 x q0 q1 q2 q3 q4 q5 t0 t1 t2 t3 t4 t5 t6
              obtain ⟨t0, t1, t2, t3, t4, t5, t6, t7⟩ := HAB.out _ hb3
              go_wp2_with fail
              refine (rhdr_is true ba br BA cB nB B PA cP nP P N _ HV1.out HNB.out (HRB.out _ hb3) (by omega) HNP.out (HRP.out _ hb3) (by omega)).mono ?_
              rintro e w4 ⟨rfl, hq4⟩
              have hb4 := hb3.trans (hq4.mono hb3.size)
              have hx4 := hx3.trans (hq4.mono hx3.size)
              clear hq4 hb3 hx3
              clear t0 t1 t2 t3 t4 t5 t6 t7
              obtain ⟨t0, t1, t2, t3, t4, t5, t6, t7⟩ := HAB.out _ hb4
              go_wp2_with fail
              refine (rcert_is true ba br BA cB nB B PA cP nP P bd SA cS nS S N _ HV2.out HNB.out (HRB.out _ hb4) (by omega) HNP.out (HRP.out _ hb4) (by omega) HNS.out (HRS.out _ hb4) (by omega)).mono ?_
              rintro e w5 ⟨rfl, hq5⟩
              have hb5 := hb4.trans (hq5.mono hb4.size)
              have hx5 := hx4.trans (hq5.mono hx4.size)
              clear hq5 hb4 hx4
              clear t0 t1 t2 t3 t4 t5 t6 t7
              obtain ⟨t0, t1, t2, t3, t4, t5, t6, t7⟩ := HAB.out _ hb5
              obtain ⟨q0, q1, q2, q3, q4, q5⟩ := HCB.out _ hx5
              go_wp2_with fail
              refine (reqCert_same ba br B2 cB2 nB B P2 cP2 nP P bd S2 cS2 nS S BA cB PA cP SA cS _ HNB.out (HIB.out.hr.below hx5) (by omega) HNP.out (HIP.out.hr.below hx5) (by omega) HNS.out (HIS.out.hr.below hx5) (by omega) (HRB.out _ hb5) (HRP.out _ hb5) (HRS.out _ hb5)).mono ?_
              rintro e w6 ⟨rfl, hq6⟩
              have hb6 := hb5.trans (hq6.mono hb5.size)
              clear hq6 hb5 hx5 q0 q1 q2 q3 q4 q5
              clear t0 t1 t2 t3 t4 t5 t6 t7
              go_wp2_with fail
              go_roundw
              case rel => exact ⟨k + 1, by go_num, by omega, by omega, hb0.trans ((hb6).mono hb0.size)⟩
              case measure => simp [intOf]; omega
            | false =>
              have HV1 := Lib.hid hv1
              have HV2 := Lib.hid hv2
              clear hv1 hv2
              have q0 : ∀ x : Calm wb, x.val.cell? ⟨w2.heap.size, 0, none⟩ = some (.int .i64 ba) := fun x => (HCB.out _ (x.ok)).1
              have q1 : ∀ x : Calm wb, x.val.cell? ⟨w2.heap.size, 1, none⟩ = some (.int .i64 br) := fun x => (HCB.out _ (x.ok)).2.1
              have q2 : ∀ x : Calm wb, x.val.cell? ⟨w2.heap.size, 2, none⟩ = some (.slice B2 nB cB2) := fun x => (HCB.out _ (x.ok)).2.2.1
              have q3 : ∀ x : Calm wb, x.val.cell? ⟨w2.heap.size, 3, none⟩ = some (.slice P2 nP cP2) := fun x => (HCB.out _ (x.ok)).2.2.2.1
              have q4 : ∀ x : Calm wb, x.val.cell? ⟨w2.heap.size, 4, none⟩ = some (.int .i64 bd) := fun x => (HCB.out _ (x.ok)).2.2.2.2.1
              have q5 : ∀ x : Calm wb, x.val.cell? ⟨w2.heap.size, 5, none⟩ = some (.slice S2 nS cS2) := fun x => (HCB.out _ (x.ok)).2.2.2.2.2
              have t0 : ∀ x : Calm wb, x.val.cell? ⟨wr.heap.size, 0, none⟩ = some (.int .i64 ba) := fun x => (HAB.out _ (hbb.trans (x.ok.mono hbb.size))).1
              have t1 : ∀ x : Calm wb, x.val.cell? ⟨wr.heap.size, 1, none⟩ = some (.int .i64 br) := fun x => (HAB.out _ (hbb.trans (x.ok.mono hbb.size))).2.1
              have t2 : ∀ x : Calm wb, x.val.cell? ⟨wr.heap.size, 2, none⟩ = some (.slice BA nB cB) := fun x => (HAB.out _ (hbb.trans (x.ok.mono hbb.size))).2.2.1
              have t3 : ∀ x : Calm wb, x.val.cell? ⟨wr.heap.size, 3, none⟩ = some (.slice PA nP cP) := fun x => (HAB.out _ (hbb.trans (x.ok.mono hbb.size))).2.2.2.1
              have t4 : ∀ x : Calm wb, x.val.cell? ⟨wr.heap.size, 4, none⟩ = some (.int .i64 bd) := fun x => (HAB.out _ (hbb.trans (x.ok.mono hbb.size))).2.2.2.2.1
              have t5 : ∀ x : Calm wb, x.val.cell? ⟨wr.heap.size, 5, none⟩ = some (.slice SA nS cS) := fun x => (HAB.out _ (hbb.trans (x.ok.mono hbb.size))).2.2.2.2.2.1
              have t6 : ∀ x : Calm wb, x.val.cell? ⟨wr.heap.size, 6, none⟩ = some (.int .i64 N) := fun x => (HAB.out _ (hbb.trans (x.ok.mono hbb.size))).2.2.2.2.2.2.1
              refine wp_region_calm (by kernel_rfl) (by kernel_rfl) ?_
              repeat (go_big_quiet_step (first
                  | (go_at_call 11; exact calm_same (hnum_any _ _))
                  | (go_at_call 12; exact calm_tells (K.check_yes ba br B2 cB2 nB B P2 cP2 nP P N _ HV1.out ⟨HIB.out.below (Calm.ok _), HIP.out.below (Calm.ok _), by omega, by omega⟩ hiN))
                  | (go_at_call 13; exact calm_tells (K.cert_no ba br B2 cB2 nB B P2 cP2 nP P bd S2 cS2 nS S N _ HV2.out ⟨HIB.out.below (Calm.ok _), HIP.out.below (Calm.ok _), by omega, by omega⟩ (HIS.out.below (Calm.ok _)) (by omega) hiN))))
              refine wpQuiet_nil ?_
              rintro _ ⟨x, rfl⟩
              obtain ⟨w3, hw3⟩ : ∃ w3, w3 = x.val := ⟨_, rfl⟩
              have hx3 : Below wb.heap.size wb w3 := by rw [hw3]; exact x.ok
              have hb3 : Below ws.heap.size ws w3 := hbb.trans (hx3.mono hbb.size)
              rw [← hw3]
              clear hw3 x q0 q1 q2 q3 q4 q5 t0 t1 t2 t3 t4 t5 t6
              obtain ⟨t0, t1, t2, t3, t4, t5, t6, t7⟩ := HAB.out _ hb3
              go_wp2_with fail
              refine (rhdr_is true ba br BA cB nB B PA cP nP P N _ HV1.out HNB.out (HRB.out _ hb3) (by omega) HNP.out (HRP.out _ hb3) (by omega)).mono ?_
              rintro e w4 ⟨rfl, hq4⟩
              have hb4 := hb3.trans (hq4.mono hb3.size)
              have hx4 := hx3.trans (hq4.mono hx3.size)
              clear hq4 hb3 hx3
              clear t0 t1 t2 t3 t4 t5 t6 t7
              obtain ⟨t0, t1, t2, t3, t4, t5, t6, t7⟩ := HAB.out _ hb4
              go_wp2_with fail
              refine (rcert_is false ba br BA cB nB B PA cP nP P bd SA cS nS S N _ HV2.out HNB.out (HRB.out _ hb4) (by omega) HNP.out (HRP.out _ hb4) (by omega) HNS.out (HRS.out _ hb4) (by omega)).mono ?_
              rintro e w5 ⟨rfl, hq5⟩
              have hb5 := hb4.trans (hq5.mono hb4.size)
              have hx5 := hx4.trans (hq5.mono hx4.size)
              clear hq5 hb4 hx4
              clear t0 t1 t2 t3 t4 t5 t6 t7
              obtain ⟨t0, t1, t2, t3, t4, t5, t6, t7⟩ := HAB.out _ hb5
              obtain ⟨q0, q1, q2, q3, q4, q5⟩ := HCB.out _ hx5
              go_wp2_with fail
              refine (reqCert_same ba br B2 cB2 nB B P2 cP2 nP P bd S2 cS2 nS S BA cB PA cP SA cS _ HNB.out (HIB.out.hr.below hx5) (by omega) HNP.out (HIP.out.hr.below hx5) (by omega) HNS.out (HIS.out.hr.below hx5) (by omega) (HRB.out _ hb5) (HRP.out _ hb5) (HRS.out _ hb5)).mono ?_
              rintro e w6 ⟨rfl, hq6⟩
              have hb6 := hb5.trans (hq6.mono hb5.size)
              clear hq6 hb5 hx5 q0 q1 q2 q3 q4 q5
              clear t0 t1 t2 t3 t4 t5 t6 t7
              go_wp2_with fail
              go_roundw
              case rel => exact ⟨k + 1, by go_num, by omega, by omega, hb0.trans ((hb6).mono hb0.size)⟩
              case measure => simp [intOf]; omega
          | false =>
            cases hv2 : certB ba br B P bd S N with
            | true =>
              have HV1 := Lib.hid hv1
              have HV2 := Lib.hid hv2
              clear hv1 hv2
              have q0 : ∀ x : Calm wb, x.val.cell? ⟨w2.heap.size, 0, none⟩ = some (.int .i64 ba) := fun x => (HCB.out _ (x.ok)).1
              have q1 : ∀ x : Calm wb, x.val.cell? ⟨w2.heap.size, 1, none⟩ = some (.int .i64 br) := fun x => (HCB.out _ (x.ok)).2.1
              have q2 : ∀ x : Calm wb, x.val.cell? ⟨w2.heap.size, 2, none⟩ = some (.slice B2 nB cB2) := fun x => (HCB.out _ (x.ok)).2.2.1
              have q3 : ∀ x : Calm wb, x.val.cell? ⟨w2.heap.size, 3, none⟩ = some (.slice P2 nP cP2) := fun x => (HCB.out _ (x.ok)).2.2.2.1
              have q4 : ∀ x : Calm wb, x.val.cell? ⟨w2.heap.size, 4, none⟩ = some (.int .i64 bd) := fun x => (HCB.out _ (x.ok)).2.2.2.2.1
              have q5 : ∀ x : Calm wb, x.val.cell? ⟨w2.heap.size, 5, none⟩ = some (.slice S2 nS cS2) := fun x => (HCB.out _ (x.ok)).2.2.2.2.2
              have t0 : ∀ x : Calm wb, x.val.cell? ⟨wr.heap.size, 0, none⟩ = some (.int .i64 ba) := fun x => (HAB.out _ (hbb.trans (x.ok.mono hbb.size))).1
              have t1 : ∀ x : Calm wb, x.val.cell? ⟨wr.heap.size, 1, none⟩ = some (.int .i64 br) := fun x => (HAB.out _ (hbb.trans (x.ok.mono hbb.size))).2.1
              have t2 : ∀ x : Calm wb, x.val.cell? ⟨wr.heap.size, 2, none⟩ = some (.slice BA nB cB) := fun x => (HAB.out _ (hbb.trans (x.ok.mono hbb.size))).2.2.1
              have t3 : ∀ x : Calm wb, x.val.cell? ⟨wr.heap.size, 3, none⟩ = some (.slice PA nP cP) := fun x => (HAB.out _ (hbb.trans (x.ok.mono hbb.size))).2.2.2.1
              have t4 : ∀ x : Calm wb, x.val.cell? ⟨wr.heap.size, 4, none⟩ = some (.int .i64 bd) := fun x => (HAB.out _ (hbb.trans (x.ok.mono hbb.size))).2.2.2.2.1
              have t5 : ∀ x : Calm wb, x.val.cell? ⟨wr.heap.size, 5, none⟩ = some (.slice SA nS cS) := fun x => (HAB.out _ (hbb.trans (x.ok.mono hbb.size))).2.2.2.2.2.1
              have t6 : ∀ x : Calm wb, x.val.cell? ⟨wr.heap.size, 6, none⟩ = some (.int .i64 N) := fun x => (HAB.out _ (hbb.trans (x.ok.mono hbb.size))).2.2.2.2.2.2.1
              refine wp_region_calm (by kernel_rfl) (by kernel_rfl) ?_
              repeat (go_big_quiet_step (first
                  | (go_at_call 11; exact calm_same (hnum_any _ _))
                  | (go_at_call 12; exact calm_tells (K.check_no ba br B2 cB2 nB B P2 cP2 nP P N _ HV1.out ⟨HIB.out.below (Calm.ok _), HIP.out.below (Calm.ok _), by omega, by omega⟩ hiN))
                  | (go_at_call 13; exact calm_tells (K.cert_yes ba br B2 cB2 nB B P2 cP2 nP P bd S2 cS2 nS S N _ HV2.out ⟨HIB.out.below (Calm.ok _), HIP.out.below (Calm.ok _), by omega, by omega⟩ (HIS.out.below (Calm.ok _)) (by omega) hiN))))
              refine wpQuiet_nil ?_
              rintro _ ⟨x, rfl⟩
              obtain ⟨w3, hw3⟩ : ∃ w3, w3 = x.val := ⟨_, rfl⟩
              have hx3 : Below wb.heap.size wb w3 := by rw [hw3]; exact x.ok
              have hb3 : Below ws.heap.size ws w3 := hbb.trans (hx3.mono hbb.size)
              rw [← hw3]
              clear hw3 x q0 q1 q2 q3 q4 q5 t0 t1 t2 t3 t4 t5 t6
              obtain ⟨t0, t1, t2, t3, t4, t5, t6, t7⟩ := HAB.out _ hb3
              go_wp2_with fail
              refine (rhdr_is false ba br BA cB nB B PA cP nP P N _ HV1.out HNB.out (HRB.out _ hb3) (by omega) HNP.out (HRP.out _ hb3) (by omega)).mono ?_
              rintro e w4 ⟨rfl, hq4⟩
              have hb4 := hb3.trans (hq4.mono hb3.size)
              have hx4 := hx3.trans (hq4.mono hx3.size)
              clear hq4 hb3 hx3
              clear t0 t1 t2 t3 t4 t5 t6 t7
              obtain ⟨t0, t1, t2, t3, t4, t5, t6, t7⟩ := HAB.out _ hb4
              go_wp2_with fail
              refine (rcert_is true ba br BA cB nB B PA cP nP P bd SA cS nS S N _ HV2.out HNB.out (HRB.out _ hb4) (by omega) HNP.out (HRP.out _ hb4) (by omega) HNS.out (HRS.out _ hb4) (by omega)).mono ?_
              rintro e w5 ⟨rfl, hq5⟩
              have hb5 := hb4.trans (hq5.mono hb4.size)
              have hx5 := hx4.trans (hq5.mono hx4.size)
              clear hq5 hb4 hx4
              clear t0 t1 t2 t3 t4 t5 t6 t7
              obtain ⟨t0, t1, t2, t3, t4, t5, t6, t7⟩ := HAB.out _ hb5
              obtain ⟨q0, q1, q2, q3, q4, q5⟩ := HCB.out _ hx5
              go_wp2_with fail
              refine (reqCert_same ba br B2 cB2 nB B P2 cP2 nP P bd S2 cS2 nS S BA cB PA cP SA cS _ HNB.out (HIB.out.hr.below hx5) (by omega) HNP.out (HIP.out.hr.below hx5) (by omega) HNS.out (HIS.out.hr.below hx5) (by omega) (HRB.out _ hb5) (HRP.out _ hb5) (HRS.out _ hb5)).mono ?_
              rintro e w6 ⟨rfl, hq6⟩
              have hb6 := hb5.trans (hq6.mono hb5.size)
              clear hq6 hb5 hx5 q0 q1 q2 q3 q4 q5
              clear t0 t1 t2 t3 t4 t5 t6 t7
              go_wp2_with fail
              go_roundw
              case rel => exact ⟨k + 1, by go_num, by omega, by omega, hb0.trans ((hb6).mono hb0.size)⟩
              case measure => simp [intOf]; omega
            | false =>
              have HV1 := Lib.hid hv1
              have HV2 := Lib.hid hv2
              clear hv1 hv2
              have q0 : ∀ x : Calm wb, x.val.cell? ⟨w2.heap.size, 0, none⟩ = some (.int .i64 ba) := fun x => (HCB.out _ (x.ok)).1
              have q1 : ∀ x : Calm wb, x.val.cell? ⟨w2.heap.size, 1, none⟩ = some (.int .i64 br) := fun x => (HCB.out _ (x.ok)).2.1
              have q2 : ∀ x : Calm wb, x.val.cell? ⟨w2.heap.size, 2, none⟩ = some (.slice B2 nB cB2) := fun x => (HCB.out _ (x.ok)).2.2.1
              have q3 : ∀ x : Calm wb, x.val.cell? ⟨w2.heap.size, 3, none⟩ = some (.slice P2 nP cP2) := fun x => (HCB.out _ (x.ok)).2.2.2.1
              have q4 : ∀ x : Calm wb, x.val.cell? ⟨w2.heap.size, 4, none⟩ = some (.int .i64 bd) := fun x => (HCB.out _ (x.ok)).2.2.2.2.1
              have q5 : ∀ x : Calm wb, x.val.cell? ⟨w2.heap.size, 5, none⟩ = some (.slice S2 nS cS2) := fun x => (HCB.out _ (x.ok)).2.2.2.2.2
              have t0 : ∀ x : Calm wb, x.val.cell? ⟨wr.heap.size, 0, none⟩ = some (.int .i64 ba) := fun x => (HAB.out _ (hbb.trans (x.ok.mono hbb.size))).1
              have t1 : ∀ x : Calm wb, x.val.cell? ⟨wr.heap.size, 1, none⟩ = some (.int .i64 br) := fun x => (HAB.out _ (hbb.trans (x.ok.mono hbb.size))).2.1
              have t2 : ∀ x : Calm wb, x.val.cell? ⟨wr.heap.size, 2, none⟩ = some (.slice BA nB cB) := fun x => (HAB.out _ (hbb.trans (x.ok.mono hbb.size))).2.2.1
              have t3 : ∀ x : Calm wb, x.val.cell? ⟨wr.heap.size, 3, none⟩ = some (.slice PA nP cP) := fun x => (HAB.out _ (hbb.trans (x.ok.mono hbb.size))).2.2.2.1
              have t4 : ∀ x : Calm wb, x.val.cell? ⟨wr.heap.size, 4, none⟩ = some (.int .i64 bd) := fun x => (HAB.out _ (hbb.trans (x.ok.mono hbb.size))).2.2.2.2.1
              have t5 : ∀ x : Calm wb, x.val.cell? ⟨wr.heap.size, 5, none⟩ = some (.slice SA nS cS) := fun x => (HAB.out _ (hbb.trans (x.ok.mono hbb.size))).2.2.2.2.2.1
              have t6 : ∀ x : Calm wb, x.val.cell? ⟨wr.heap.size, 6, none⟩ = some (.int .i64 N) := fun x => (HAB.out _ (hbb.trans (x.ok.mono hbb.size))).2.2.2.2.2.2.1
              refine wp_region_calm (by kernel_rfl) (by kernel_rfl) ?_
              repeat (go_big_quiet_step (first
                  | (go_at_call 11; exact calm_same (hnum_any _ _))
                  | (go_at_call 12; exact calm_tells (K.check_no ba br B2 cB2 nB B P2 cP2 nP P N _ HV1.out ⟨HIB.out.below (Calm.ok _), HIP.out.below (Calm.ok _), by omega, by omega⟩ hiN))
                  | (go_at_call 13; exact calm_tells (K.cert_no ba br B2 cB2 nB B P2 cP2 nP P bd S2 cS2 nS S N _ HV2.out ⟨HIB.out.below (Calm.ok _), HIP.out.below (Calm.ok _), by omega, by omega⟩ (HIS.out.below (Calm.ok _)) (by omega) hiN))))
              refine wpQuiet_nil ?_
              rintro _ ⟨x, rfl⟩
              obtain ⟨w3, hw3⟩ : ∃ w3, w3 = x.val := ⟨_, rfl⟩
              have hx3 : Below wb.heap.size wb w3 := by rw [hw3]; exact x.ok
              have hb3 : Below ws.heap.size ws w3 := hbb.trans (hx3.mono hbb.size)
              rw [← hw3]
              clear hw3 x q0 q1 q2 q3 q4 q5 t0 t1 t2 t3 t4 t5 t6
              obtain ⟨t0, t1, t2, t3, t4, t5, t6, t7⟩ := HAB.out _ hb3
              go_wp2_with fail
              refine (rhdr_is false ba br BA cB nB B PA cP nP P N _ HV1.out HNB.out (HRB.out _ hb3) (by omega) HNP.out (HRP.out _ hb3) (by omega)).mono ?_
              rintro e w4 ⟨rfl, hq4⟩
              have hb4 := hb3.trans (hq4.mono hb3.size)
              have hx4 := hx3.trans (hq4.mono hx3.size)
              clear hq4 hb3 hx3
              clear t0 t1 t2 t3 t4 t5 t6 t7
              obtain ⟨t0, t1, t2, t3, t4, t5, t6, t7⟩ := HAB.out _ hb4
              go_wp2_with fail
              refine (rcert_is false ba br BA cB nB B PA cP nP P bd SA cS nS S N _ HV2.out HNB.out (HRB.out _ hb4) (by omega) HNP.out (HRP.out _ hb4) (by omega) HNS.out (HRS.out _ hb4) (by omega)).mono ?_
              rintro e w5 ⟨rfl, hq5⟩
              have hb5 := hb4.trans (hq5.mono hb4.size)
              have hx5 := hx4.trans (hq5.mono hx4.size)
              clear hq5 hb4 hx4
              clear t0 t1 t2 t3 t4 t5 t6 t7
              obtain ⟨t0, t1, t2, t3, t4, t5, t6, t7⟩ := HAB.out _ hb5
              obtain ⟨q0, q1, q2, q3, q4, q5⟩ := HCB.out _ hx5
              go_wp2_with fail
              refine (reqCert_same ba br B2 cB2 nB B P2 cP2 nP P bd S2 cS2 nS S BA cB PA cP SA cS _ HNB.out (HIB.out.hr.below hx5) (by omega) HNP.out (HIP.out.hr.below hx5) (by omega) HNS.out (HIS.out.hr.below hx5) (by omega) (HRB.out _ hb5) (HRP.out _ hb5) (HRS.out _ hb5)).mono ?_
              rintro e w6 ⟨rfl, hq6⟩
              have hb6 := hb5.trans (hq6.mono hb5.size)
              clear hq6 hb5 hx5 q0 q1 q2 q3 q4 q5
              clear t0 t1 t2 t3 t4 t5 t6 t7
              go_wp2_with fail
              go_roundw
              case rel => exact ⟨k + 1, by go_num, by omega, by omega, hb0.trans ((hb6).mono hb0.size)⟩
              case measure => simp [intOf]; omega
      · have i1 : (k : Int) < (len : Int) := by omega
        have i2 : ¬ ((k : Int) < 8) := by omega
        go_wp2_with fail
        refine (hwakes_any K _).mono ?_
        rintro e w' ⟨rfl, hbw⟩
        go_wp2_with fail
        go_ret
        exact ⟨rfl, hb.trans (hbw.mono hb.size)⟩
    · have i1 : ¬ ((k : Int) < (len : Int)) := by omega
      go_wp2_with fail
      refine (hwakes_any K _).mono ?_
      rintro e w' ⟨rfl, hbw⟩
      go_wp2_with fail
      go_ret
      exact ⟨rfl, hb.trans (hbw.mono hb.size)⟩

end Go.Proofs.Ytkgbnohmhjljoaa
