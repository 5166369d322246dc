/-
 Which workers may be, by the page.
-/
import Derived.Test.YteepobghdpnabaaGreatRows
import Derived.WalkSpells
import Derived.Test.YteepobghdpnabaaGreatKBw
import Derived.Test.YteepobghdpnabaaGreatKBs
import Derived.Test.YteepobghdpnabaaGreatKBa
import Derived.Test.YteepobghdpnabaaGreatKBo
namespace Go.Proofs.YteepobghdpnabaaGreat
open Go.RowKit

def WaitTo (N : Int) (l : List WtD) (k : Nat) : Prop := ∀ (i : Nat) (x : WtD), i < k → l[i]? = some x → digB x.d = true ∧ risB x.S = true ∧ betB 1 N x.S = true ∧ ∀ y, 0 < i → l[i - 1]? = some y → y.d < x.d
theorem waitTo_next {N : Int} {l : List WtD} {k : Nat} {x : WtD} (h : WaitTo N l k) (hx : l[k]? = some x) (h1 : digB x.d = true) (h2 : risB x.S = true) (h2' : betB 1 N x.S = true) (h3 : ∀ y, 0 < k → l[k - 1]? = some y → y.d < x.d) : WaitTo N l (k + 1) := by
 intro i y hi hy
 rcases Nat.lt_or_ge i k with h4 | h4
 ·exact h i y h4 hy
 ·obtain rfl : i = k := by omega
  rw [hx] at hy
  cases hy
  exact ⟨h1, h2, h2', h3⟩
theorem waitTo_all {N : Int} {l : List WtD} {k : Nat} (h : WaitTo N l k) (hk : l.length ≤ k) : WaitOk N l := fun i x hx => h i x (by have := (List.getElem?_eq_some_iff.1 hx).1; omega) hx

set_option maxRecDepth 100000 in
set_option maxHeartbeats 16000000 in
theorem rmayW_yes (b : Bool) (P : WkD) (a : WkA) (w : World) (hb : mayW P = b) (h : WIn w P a) (hf : WFew P 1000000) (hg0 : NumsOk P) : Calls Tryz.prog 16 #[wkV P a] w (Tells w.heap.size w (.bool b)) := by
 obtain ⟨w0, hw0⟩ : ∃ w0, w0 = w.alloc (.cells #[.int .i64 P.i, .int .i64 P.N, .int .i64 P.x, .slice a.O.A a.O.n a.O.c, .int .i64 P.g, .int .i64 P.c, .slice a.W.A a.W.n a.W.c, .slice a.H.A a.H.n a.H.c, .slice a.R.A a.R.n a.R.c] 27) := ⟨_, rfl⟩
 have hb0 : Below w.heap.size w w0 := by rw [hw0]; exact (Below.refl _ _).alloc (Nat.le_refl _) _
 have bx0 : Box w0 w.heap.size (wkC P a) := by rw [hw0]; exact box_new w (wkC P a) 27
 obtain ⟨g, hg⟩ : ∃ g, g = w.heap.size := ⟨_, rfl⟩
 rw [← hg] at bx0 hb0 ⊢
 have HB : Hid (b = true ↔ MayW P) := by show _ ↔ _; rw [← hb]; exact mayW_iff
 have HNO : Hid (¬ MayW P → b = false) := by show _ → _; intro hn; rw [← hb]; exact mayW_no hn
 have hIN0 : WIn w0 P a := by rw [hg] at hb0; exact h.below hb0
 have HIN : Hid (∀ wX, Below w0.heap.size w0 wX → WIn wX P a) := by show ∀ wX, _; exact fun wX hX => hIN0.below hX
 have HX : Hid (∀ wX, Below w0.heap.size w0 wX → Box wX g (wkC P a)) := by show ∀ wX, _; exact fun wX hX => bx0.below hX bx0.1
 have HW0 := Lib.hid hw0
 have HG := Lib.hid hg
 have HB0 := Lib.hid hb0
 have HF := Lib.hid hf
 have HEW := Lib.hid h.eW
 have HEH := Lib.hid h.eH
 have HLM := Lib.hid (len_fst h.eW)
 have HLHS := Lib.hid (len_fst h.eH)
 have hlO : P.O.length = a.O.n := hIN0.open_.len
 have hlW : a.ms.length = a.W.n := hIN0.waits.row.len
 have hlH : P.H.length = a.H.n := by rw [← len_fst h.eH]; exact hIN0.held.row.len
 have HLO := Lib.hid hlO
 have HLW := Lib.hid hlW
 have HLH := Lib.hid hlH
 have hnW : a.W.n ≤ 1000000 := by have := HLM.out; have := hf.w; omega
 have r0 := Below.refl w0.heap.size w0
 have cMay := fun (b : Bool) (hbb : mayB P.N = b) (wX : World) => rmay_is b P.N hbb wX
 have cTxs := fun (b : Bool) (hbb : P.O.all txB = b) (wX : World) (hX : Below w0.heap.size w0 wX) => rtxs_is b a.O.A a.O.c a.O.n P.O wX hbb (HIN.out wX hX).open_.len (HIN.out wX hX).open_.rd (by have := HLO.out; have := HF.out.o; omega)
 have cHeld := fun (b : Bool) (hbb : b = true ↔ HeldOk P.H) (wX : World) (hX : Below w0.heap.size w0 wX) => rheld_is b a.H a.hs wX (by rw [HEH.out]; exact hbb) (HIN.out wX hX).held (by have := HLHS.out; have := HF.out.h; omega)
 have cDig := fun (b : Bool) (hbb : betB 1 65536 P.R = b) (wX : World) (hX : Below w0.heap.size w0 wX) => rdigests0_is b a.R.A a.R.c a.R.n P.R wX hbb (HIN.out wX hX).ready.len (HIN.out wX hX).ready.rd (by have := (HIN.out wX hX).ready.len; have := HF.out.r; omega)
 have cUnl := fun (b : Bool) (hbb : b = true ↔ OnceOk P.R) (wX : World) (hX : Below w0.heap.size w0 wX) => runlike_is b a.R.A a.R.c a.R.n P.R wX hbb (HIN.out wX hX).ready.len (HIN.out wX hX).ready.cap (HIN.out wX hX).ready.rd (by have := (HIN.out wX hX).ready.len; have := HF.out.r; omega)
 have CMAY := Lib.hid cMay
 have CTXS := Lib.hid cTxs
 have CHELD := Lib.hid cHeld
 have CDIG := Lib.hid cDig
 have CUNL := Lib.hid cUnl
 obtain ⟨k0, k1, k2, k3, k4, k5, k6, k7, k8⟩ := wk_cells (HX.out _ r0)
 have HG0 := Lib.hid hg0
 clear hg0 hw0 hg bx0 hIN0 cMay cTxs cHeld cDig cUnl h hb hf hb0 hlO hlW hlH
 unfold wkV Ad.v
 by_cases e0 : mayB P.N = true
 ·have E0 := Lib.hid e0
  clear e0
  have D0 : Hid (mayB P.N = true) := E0
  by_cases e1 : 1 ≤ P.i
  ·have E1 := Lib.hid e1
   clear e1
   have j1 : decide (P.i < 1) = false := decide_eq_false (by have := E1.out; omega)
   have l1 : ¬ (P.i < 1) := by have := E1.out; omega
   by_cases e2 : P.i ≤ P.N
   ·have E2 := Lib.hid e2
    clear e2
    have j2 : decide (P.N < P.i) = false := decide_eq_false (by have := E2.out; omega)
    have l2 : ¬ (P.N < P.i) := by have := E2.out; omega
    by_cases e3 : 1 ≤ P.x
    ·have E3 := Lib.hid e3
     clear e3
     have j3 : decide (P.x < 1) = false := decide_eq_false (by have := E3.out; omega)
     have l3 : ¬ (P.x < 1) := by have := E3.out; omega
     by_cases e4 : P.x ≤ 1099511627776
     ·have E4 := Lib.hid e4
      clear e4
      have j4 : decide ((1099511627776 : Int) < P.x) = false := decide_eq_false (by have := E4.out; omega)
      have l4 : ¬ ((1099511627776 : Int) < P.x) := by have := E4.out; omega
      by_cases e5 : P.O.length ≤ 64
      ·have E5 := Lib.hid e5
       clear e5
       have j5 : decide ((64 : Int) < (a.O.n : Int)) = false := decide_eq_false (by have := HLO.out; have := E5.out; omega)
       have l5 : ¬ ((64 : Int) < (a.O.n : Int)) := by have := HLO.out; have := E5.out; omega
       by_cases e6 : P.O.all txB = true
       ·have E6 := Lib.hid e6
        clear e6
        have D6 : Hid (P.O.all txB = true) := E6
        by_cases e7 : 0 ≤ P.g ∧ P.g ≤ 1099511627776
        ·have E7 := Lib.hid e7
         clear e7
         have D7 : Hid (decide (0 ≤ P.g ∧ P.g ≤ 1099511627776) = true) := decide_eq_true E7.out
         by_cases e8 : 0 ≤ P.c ∧ P.c ≤ 1099511627776
         ·have E8 := Lib.hid e8
          clear e8
          have D8 : Hid (decide (0 ≤ P.c ∧ P.c ≤ 1099511627776) = true) := decide_eq_true E8.out
          by_cases e9 : P.H.length ≤ 1024
          ·have E9 := Lib.hid e9
           clear e9
           have j9 : decide ((1024 : Int) < (a.H.n : Int)) = false := decide_eq_false (by have := HLH.out; have := E9.out; omega)
           have l9 : ¬ ((1024 : Int) < (a.H.n : Int)) := by have := HLH.out; have := E9.out; omega
           by_cases e10 : HeldOk P.H
           ·have E10 := Lib.hid e10
            clear e10
            have D10 := Lib.hid (CHELD.out true ⟨fun _ => E10.out, fun _ => rfl⟩)
            by_cases e11 : betB 1 65536 P.R = true
            ·have E11 := Lib.hid e11
             clear e11
             have D11 : Hid (betB 1 65536 P.R = true) := E11
             by_cases e12 : OnceOk P.R
             ·have E12 := Lib.hid e12
              clear e12
              have D12 := Lib.hid (CUNL.out true ⟨fun _ => E12.out, fun _ => rfl⟩)
              go_enter Tryz.func16, Tryz.ntmps16
              go_upto_region 1 with fail
              rw [← HW0.out, ← HG.out]
              go_upto_region 3 with (first
               | (go_at_call 30; refine (CMAY.out true D0.out _).mono ?_; rintro e w' ⟨rfl, rfl⟩)
               | (go_at_call 31; refine (CTXS.out true D6.out _ r0).mono ?_; rintro e w3 ⟨rfl, hb3⟩; obtain ⟨k30, k31, k32, k33, k34, k35, k36, k37, k38⟩ := wk_cells (HX.out _ hb3))
               | (go_at_call 32; first | (refine (rnum0_is true P.g D7.out _).mono ?_; rintro e w' ⟨rfl, rfl⟩) | (refine (rnum0_is true P.c D8.out _).mono ?_; rintro e w' ⟨rfl, rfl⟩))
               | (go_at_call 33; refine (D10.out _ hb3).mono ?_; rintro e w4 ⟨rfl, hb4'⟩; have hb4 := hb3.trans (hb4'.mono hb3.size); obtain ⟨k40, k41, k42, k43, k44, k45, k46, k47, k48⟩ := wk_cells (HX.out _ hb4))
               | (go_at_call 34; refine (CDIG.out true D11.out _ hb4).mono ?_; rintro e w' ⟨rfl, rfl⟩)
               | (go_at_call 35; refine (D12.out _ hb4).mono ?_; rintro e w5 ⟨rfl, hb5'⟩; have hb5 := hb4.trans (hb5'.mono hb4.size); obtain ⟨k50, k51, k52, k53, k54, k55, k56, k57, k58⟩ := wk_cells (HX.out _ hb5)))
              have HG2 : Hid (g ≤ w0.heap.size) := by show g ≤ _; rw [HW0.out, HG.out]; simp
              obtain ⟨w6, hw6⟩ : ∃ w6, w6 = w5 := ⟨_, rfl⟩
              rw [← hw6] at hb5 ⊢
              clear hw6 k30 k31 k32 k33 k34 k35 k36 k37 k38 k40 k41 k42 k43 k44 k45 k46 k47 k48 k50 k51 k52 k53 k54 k55 k56 k57 k58 k0 k1 k2 k3 k4 k5 k6 k7 k8 hb4' hb5' hb4 hb3
              go_wp2_with fail
              go_loopw [3] (fun i wr => ∃ k : Nat, i = .int .i64 k ∧ k ≤ a.W.n ∧ Hid (WaitTo P.N (a.ms.map Prod.fst) k) ∧ Below w0.heap.size w0 wr) (fun i _ => a.W.n - (intOf i).toNat)
              case atStart => exact ⟨0, rfl, Nat.zero_le _, fun i x hi => by omega, hb5⟩
              case round =>
               clear hb5
               obtain ⟨k, rfl, hk, HT, hb⟩ := hrel
               have i0 : (0 : Int) ≤ (k : Int) := by omega
               have hbxr := HX.out _ hb
               have k6 : wr.cell? ⟨g, 6, none⟩ = some (.slice a.W.A a.W.n a.W.c) := (hbxr.2 6 _ rfl).1
               by_cases hlt : k < a.W.n
               ·have i1 : (k : Int) < (a.W.n : Int) := by omega
                obtain ⟨x, hx⟩ : ∃ x, a.ms[k]? = some x := ⟨a.ms[k]'(by rw [HLW.out]; exact hlt), by simp⟩
                obtain ⟨bq, off, hA, hbl, hcl⟩ := (HIN.out _ hb).waits.row.rd.open_ (by rw [cellsK_length, HLW.out]; show 0 < a.W.n * 2; omega)
                have hce := fun j v hv => hcl (k * 2 + j) v (cellsK_at KW hx (j := j) (v := v) hv)
                have e0 : wr.cell? ⟨bq, off + k * 2, none⟩ = some (.int .i64 x.1.d) := hce 0 _ rfl
                have e1 : wr.cell? ⟨bq, off + k * 2 + 1, none⟩ = some (.slice x.2.A x.2.n x.2.c) := by have := hce 1 _ rfl; rw [← Nat.add_assoc] at this; exact this
                have hx1 : (a.ms.map Prod.fst)[k]? = some x.1 := by rw [List.getElem?_map, hx]; rfl
                have HX1 := Lib.hid hx1
                have hsub := (HIN.out _ hb).waits.sub x (List.mem_of_getElem? hx)
                have HSN : Hid (x.1.S.length ≤ 1000000) := HF.out.s _ (mem_fst HEW.out (List.mem_of_getElem? hx))
                have HPV : Hid (∀ p, k = p + 1 → ∃ y, (a.ms.map Prod.fst)[p]? = some y ∧ wr.cell? ⟨bq, off + p * 2, none⟩ = some (.int .i64 y.d)) := by
                 show ∀ p, _
                 intro p hp
                 obtain ⟨y, hy⟩ : ∃ y, a.ms[p]? = some y := ⟨a.ms[p]'(by rw [HLW.out]; omega), by simp⟩
                 exact ⟨y.1, by rw [List.getElem?_map, hy]; rfl, hcl (p * 2 + 0) _ (cellsK_at KW hy (j := 0) rfl)⟩
                rw [hA] at k6
                have HA := Lib.hid hA
                clear hx1 hx hcl hce hA
                go_upto_region 7 with fail
                obtain ⟨w7, hw7⟩ : ∃ w7, w7 = wr.alloc (.cells #[.int .i64 x.1.d, .slice x.2.A x.2.n x.2.c] 56) := ⟨_, rfl⟩
                rw [← hw7]
                have hb2 : Below wr.heap.size wr w7 := by rw [hw7]; exact (Below.refl _ _).alloc (Nat.le_refl _) _
                have bx7 : Box w7 wr.heap.size [.int .i64 x.1.d, .slice x.2.A x.2.n x.2.c] := by rw [hw7]; exact box_new wr _ _
                have HSB := Lib.hid (hsub.below hb2)
                have y0 : ∀ z : Calm w7, z.val.cell? ⟨wr.heap.size, 0, none⟩ = some (.int .i64 x.1.d) := fun z => (z.ok.cell (p := ⟨wr.heap.size, 0, none⟩) bx7.1).trans (bx7.2 0 _ rfl).1
                have y1 : ∀ z : Calm w7, z.val.cell? ⟨wr.heap.size, 1, none⟩ = some (.slice x.2.A x.2.n x.2.c) := fun z => (z.ok.cell (p := ⟨wr.heap.size, 1, none⟩) bx7.1).trans (bx7.2 1 _ rfl).1
                have hbx7 := hbxr.below hb2 hbxr.1
                have y6 : ∀ z : Calm w7, z.val.cell? ⟨g, 6, none⟩ = some (.slice (some ⟨bq, off, none⟩) a.W.n a.W.c) := fun z => by rw [← HA.out]; exact (z.ok.cell (p := ⟨g, 6, none⟩) hbx7.1).trans (hbx7.2 6 _ rfl).1
                have yN : ∀ z : Calm w7, z.val.cell? ⟨g, 1, none⟩ = some (.int .i64 P.N) := fun z => (z.ok.cell (p := ⟨g, 1, none⟩) hbx7.1).trans (hbx7.2 1 _ rfl).1
                have HDG : Hid (∀ (b : Bool), digB x.1.d = b → ∀ z : Calm w7, Calls Tryz.prog 36 #[.int .i64 x.1.d] z.val fun e w' => e = .returned (.bool b) ∧ z.val = w') := fun b hb z => rdigest_is b x.1.d hb z.val
                have HRI : Hid (∀ (b : Bool), risB x.1.S = b → ∀ z : Calm w7, Calls Tryz.prog 37 #[.slice x.2.A x.2.n x.2.c] z.val fun e w' => e = .returned (.bool b) ∧ ∃ d, w' = z.val.drewN d) := fun b hb z => rrising_is b x.2.A x.2.c x.2.n x.1.S z.val hb (HSB.out.below z.ok).len (HSB.out.below z.ok).rd (by have := (HSB.out.below z.ok).len; have := HSN.out; have e : KW.len x.1 = x.1.S.length := rfl; omega)
                have HBE : Hid (∀ (b : Bool), betB 1 P.N x.1.S = b → ∀ z : Calm w7, Calls Tryz.prog 38 #[.slice x.2.A x.2.n x.2.c, .int .i64 1, .int .i64 P.N] z.val fun e w' => e = .returned (.bool b) ∧ z.val = w') := fun b hb z => rbetween_is b x.2.A x.2.c x.2.n x.1.S 1 P.N z.val hb (HSB.out.below z.ok).len (HSB.out.below z.ok).rd (by have := (HSB.out.below z.ok).len; have := HSN.out; have e : KW.len x.1 = x.1.S.length := rfl; omega)
                have HNE : Hid ((¬ (digB x.1.d = true ∧ risB x.1.S = true ∧ betB 1 P.N x.1.S = true ∧ ∀ y, 0 < k → (a.ms.map Prod.fst)[k - 1]? = some y → y.d < x.1.d)) → b = false) := by
                 intro hne
                 refine HNO.out fun hm => hne ?_
                 have := hm.waits k x.1 (by rw [← HEW.out]; exact HX1.out)
                 rw [HEW.out]
                 exact this
                clear hw7 bx7 hbx7 hbxr k6 e0 e1 hsub
                cases hdg : digB x.1.d with
                | false =>
                 have HD := Lib.hid hdg
                 have HV : Hid (b = false) := HNE.out fun h => by rw [HD.out] at h; exact absurd h.1 (by decide)
                 clear hdg
                 refine wp_region_calm (by kernel_rfl) (by kernel_rfl) ?_
                 repeat (go_big_quiet_step (first
                  | (go_at_call 36; exact calm_same (HDG.out _ HD.out _))))
                 refine wpQuiet_nil ?_
                 rintro _ ⟨z, rfl⟩
                 have hz := z.ok
                 clear y0 y1 y6 yN
                 try clear hwp hwp2 hwp3 hwp4
                 go_wp2_with fail
                 go_ret
                 exact ⟨ret_bool HV.out.symm, HB0.out.trans ((hb.trans (hb2.trans (hz.mono hb2.size) |>.mono hb.size)).mono (by have := HG2.out; omega))⟩
                | true =>
                 have HD := Lib.hid hdg
                 clear hdg
                 by_cases hk0 : k = 0
                 ·have j20 : decide ((0 : Int) < (k : Int)) = false := decide_eq_false (by omega)
                  have j21 : ¬ ((0 : Int) < (k : Int)) := by omega
                  have j22 : ¬ (0 < k) := by omega
                  have j23 : decide (0 < k) = false := decide_eq_false j22
                  clear hk0
                  cases hrb : risB x.1.S with
                  | false =>
                   have HRB := Lib.hid hrb
                   have HV : Hid (b = false) := HNE.out fun h => by rw [HRB.out] at h; exact absurd h.2.1 (by decide)
                   clear hrb
                   refine wp_region_calm (by kernel_rfl) (by kernel_rfl) ?_
                   repeat (go_big_quiet_step (first
                    | (go_at_call 36; exact calm_same (HDG.out _ HD.out _))
                    | (go_at_call 37; exact calm_drew (HRI.out _ HRB.out _))))
                   refine wpQuiet_nil ?_
                   rintro _ ⟨z, rfl⟩
                   have hz := z.ok
                   clear y0 y1 y6 yN
                   try clear hwp hwp2 hwp3 hwp4
                   go_wp2_with fail
                   go_ret
                   exact ⟨ret_bool HV.out.symm, HB0.out.trans ((hb.trans (hb2.trans (hz.mono hb2.size) |>.mono hb.size)).mono (by have := HG2.out; omega))⟩
                  | true =>
                   have HRB := Lib.hid hrb
                   clear hrb
                   cases hbt : betB 1 P.N x.1.S with
                   | false =>
                    have HBT := Lib.hid hbt
                    have HV : Hid (b = false) := HNE.out fun h => by rw [HBT.out] at h; exact absurd h.2.2.1 (by decide)
                    clear hbt
                    refine wp_region_calm (by kernel_rfl) (by kernel_rfl) ?_
                    repeat (go_big_quiet_step (first
                     | (go_at_call 36; exact calm_same (HDG.out _ HD.out _))
                     | (go_at_call 37; exact calm_drew (HRI.out _ HRB.out _))
                     | (go_at_call 38; exact calm_same (HBE.out _ HBT.out _))))
                    refine wpQuiet_nil ?_
                    rintro _ ⟨z, rfl⟩
                    have hz := z.ok
                    clear y0 y1 y6 yN
                    try clear hwp hwp2 hwp3 hwp4
                    go_wp2_with fail
                    go_ret
                    exact ⟨ret_bool HV.out.symm, HB0.out.trans ((hb.trans (hb2.trans (hz.mono hb2.size) |>.mono hb.size)).mono (by have := HG2.out; omega))⟩
                   | true =>
                    have HBT := Lib.hid hbt
                    clear hbt
                    have HN : Hid (WaitTo P.N (a.ms.map Prod.fst) (k + 1)) := waitTo_next HT.out HX1.out HD.out HRB.out HBT.out (fun y hy => absurd hy j22)
                    refine wp_region_calm (by kernel_rfl) (by kernel_rfl) ?_
                    repeat (go_big_quiet_step (first
                     | (go_at_call 36; exact calm_same (HDG.out _ HD.out _))
                     | (go_at_call 37; exact calm_drew (HRI.out _ HRB.out _))
                     | (go_at_call 38; exact calm_same (HBE.out _ HBT.out _))))
                    refine wpQuiet_nil ?_
                    rintro _ ⟨z, rfl⟩
                    have hz := z.ok
                    clear y0 y1 y6 yN
                    try clear hwp hwp2 hwp3 hwp4
                    go_wp2_with fail
                    go_roundw
                    case rel => exact ⟨k + 1, by go_num, hlt, HN, hb.trans ((hb2.trans (hz.mono hb2.size)).mono hb.size)⟩
                    case measure => simp [intOf]; omega
                 ·obtain ⟨p, hp⟩ : ∃ p, k = p + 1 := ⟨k - 1, by omega⟩
                  obtain ⟨y, hy1, hyc⟩ := HPV.out p hp
                  have HY1 := Lib.hid hy1
                  have q0 : ∀ z : Calm w7, z.val.cell? ⟨bq, off + p * 2, none⟩ = some (.int .i64 y.d) := fun z => ((hb2.trans (z.ok.mono hb2.size)).cell (p := ⟨bq, off + p * 2, none⟩) hbl).trans hyc
                  subst hp
                  have i4 : (0 : Int) ≤ (p : Int) := by omega
                  have i5 : (p : Int) < (a.W.n : Int) := by omega
                  have j20 : decide ((0 : Int) < (p : Int) + 1) = true := decide_eq_true (by omega)
                  have j21 : (0 : Int) < (p : Int) + 1 := by omega
                  obtain ⟨hwp, hwp2, hwp3, hwp4⟩ := p_facts p (by omega)
                  clear hy1 hyc hk0
                  by_cases hge : x.1.d ≤ y.d
                  ·have j25 : decide (x.1.d ≤ y.d) = true := decide_eq_true hge
                   have HV : Hid (b = false) := HNE.out fun h => absurd (h.2.2.2 y (Nat.succ_pos p) HY1.out) (Int.not_lt.2 hge)
                   refine wp_region_calm (by kernel_rfl) (by kernel_rfl) ?_
                   repeat (go_big_quiet_step (first
                    | (go_at_call 36; exact calm_same (HDG.out _ HD.out _))))
                   refine wpQuiet_nil ?_
                   rintro _ ⟨z, rfl⟩
                   have hz := z.ok
                   clear y0 y1 y6 yN
                   try clear hwp hwp2 hwp3 hwp4
                   go_wp2_with fail
                   go_ret
                   exact ⟨ret_bool HV.out.symm, HB0.out.trans ((hb.trans (hb2.trans (hz.mono hb2.size) |>.mono hb.size)).mono (by have := HG2.out; omega))⟩
                  ·have j25 : decide (x.1.d ≤ y.d) = false := decide_eq_false hge
                   cases hrb : risB x.1.S with
                   | false =>
                    have HRB := Lib.hid hrb
                    have HV : Hid (b = false) := HNE.out fun h => by rw [HRB.out] at h; exact absurd h.2.1 (by decide)
                    clear hrb
                    refine wp_region_calm (by kernel_rfl) (by kernel_rfl) ?_
                    repeat (go_big_quiet_step (first
                     | (go_at_call 36; exact calm_same (HDG.out _ HD.out _))
                     | (go_at_call 37; exact calm_drew (HRI.out _ HRB.out _))))
                    refine wpQuiet_nil ?_
                    rintro _ ⟨z, rfl⟩
                    have hz := z.ok
                    clear y0 y1 y6 yN
                    try clear hwp hwp2 hwp3 hwp4
                    go_wp2_with fail
                    go_ret
                    exact ⟨ret_bool HV.out.symm, HB0.out.trans ((hb.trans (hb2.trans (hz.mono hb2.size) |>.mono hb.size)).mono (by have := HG2.out; omega))⟩
                   | true =>
                    have HRB := Lib.hid hrb
                    clear hrb
                    cases hbt : betB 1 P.N x.1.S with
                    | false =>
                     have HBT := Lib.hid hbt
                     have HV : Hid (b = false) := HNE.out fun h => by rw [HBT.out] at h; exact absurd h.2.2.1 (by decide)
                     clear hbt
                     refine wp_region_calm (by kernel_rfl) (by kernel_rfl) ?_
                     repeat (go_big_quiet_step (first
                      | (go_at_call 36; exact calm_same (HDG.out _ HD.out _))
                      | (go_at_call 37; exact calm_drew (HRI.out _ HRB.out _))
                      | (go_at_call 38; exact calm_same (HBE.out _ HBT.out _))))
                     refine wpQuiet_nil ?_
                     rintro _ ⟨z, rfl⟩
                     have hz := z.ok
                     clear y0 y1 y6 yN
                     try clear hwp hwp2 hwp3 hwp4
                     go_wp2_with fail
                     go_ret
                     exact ⟨ret_bool HV.out.symm, HB0.out.trans ((hb.trans (hb2.trans (hz.mono hb2.size) |>.mono hb.size)).mono (by have := HG2.out; omega))⟩
                    | true =>
                     have HBT := Lib.hid hbt
                     clear hbt
                     have HN : Hid (WaitTo P.N (a.ms.map Prod.fst) (p + 1 + 1)) := waitTo_next HT.out HX1.out HD.out HRB.out HBT.out (fun v hv h => by rw [Nat.add_sub_cancel, HY1.out] at h; cases h; omega)
                     refine wp_region_calm (by kernel_rfl) (by kernel_rfl) ?_
                     repeat (go_big_quiet_step (first
                      | (go_at_call 36; exact calm_same (HDG.out _ HD.out _))
                      | (go_at_call 37; exact calm_drew (HRI.out _ HRB.out _))
                      | (go_at_call 38; exact calm_same (HBE.out _ HBT.out _))))
                     refine wpQuiet_nil ?_
                     rintro _ ⟨z, rfl⟩
                     have hz := z.ok
                     clear y0 y1 y6 yN
                     try clear hwp hwp2 hwp3 hwp4
                     go_wp2_with fail
                     go_roundw
                     case rel => exact ⟨p + 1 + 1, by go_num, hlt, HN, hb.trans ((hb2.trans (hz.mono hb2.size)).mono hb.size)⟩
                     case measure => simp [intOf]; omega
               ·have i1 : ¬ ((k : Int) < (a.W.n : Int)) := by omega
                have HV : Hid (b = true) := HB.out.2 ⟨E0.out, ⟨E1.out, E2.out⟩, ⟨E3.out, E4.out⟩, E5.out, E6.out, E7.out, E8.out, E9.out, E10.out, E11.out, E12.out, by rw [← HEW.out]; exact waitTo_all HT.out (by rw [List.length_map, HLW.out]; omega)⟩
                clear hbxr
                go_wp2_with fail
                go_ret
                exact ⟨ret_bool HV.out.symm, HB0.out.trans (hb.mono HG2.out)⟩
             ·exact absurd HG0.out.2.2.2.2.2.2.2.2.2.2.2.2 e12
            ·exact absurd HG0.out.2.2.2.2.2.2.2.2.2.2.2.1 e11
           ·exact absurd HG0.out.2.2.2.2.2.2.2.2.2.2.1 e10
          ·exact absurd HG0.out.2.2.2.2.2.2.2.2.2.1 e9
         ·exact absurd HG0.out.2.2.2.2.2.2.2.2.1 e8
        ·exact absurd HG0.out.2.2.2.2.2.2.2.1 e7
       ·exact absurd HG0.out.2.2.2.2.2.2.1 e6
      ·exact absurd HG0.out.2.2.2.2.2.1 e5
     ·exact absurd HG0.out.2.2.2.2.1 e4
    ·exact absurd HG0.out.2.2.2.1 e3
   ·exact absurd HG0.out.2.2.1 e2
  ·exact absurd HG0.out.2.1 e1
 ·exact absurd HG0.out.1 e0
theorem rmayW_is (b : Bool) (P : WkD) (a : WkA) (w : World) (hb : mayW P = b) (h : WIn w P a) (hf : WFew P 1000000) : Calls Tryz.prog 16 #[wkV P a] w (Tells w.heap.size w (.bool b)) := by
 by_cases hng : NumsOk P
 ·exact rmayW_yes b P a w hb h hf hng
 ·exact rmayW_no b P a w hb h hf hng

end Go.Proofs.YteepobghdpnabaaGreat
namespace Go.Proofs.YteepobghdpnabaaGreat
open Go.RowKit

theorem withinG_is (i : Int) (n r : Nat) (w : World) (hv : wrap64 ((IntKind.u64.wrap i).tmod (n : Int)) = (r : Int)) (hn : 0 < n) (hn' : n ≤ 4611686018427387904) : Calls Tryz.prog 45 #[.int .i64 i, .int .i64 n] w fun e w' => e = .returned (.int .i64 r) ∧ w = w' := by
 have HV := Lib.hid hv
 clear hv
 go_enter Tryz.func45, Tryz.ntmps45
 go_wp2
 rw [HV.out]
 go_ret
 exact ⟨rfl, rfl⟩

end Go.Proofs.YteepobghdpnabaaGreat
namespace Go.Proofs.YteepobghdpnabaaGreat
open Go

theorem ytake_24 {P : Program} {md : Region.Mode} {Q : Exit → Act → World → Prop} {S : World → Prop} {o0 o1 o2 o3 o4 o5 o6 o7 o8 o9 o10 o11 o12 o13 o14 o15 o16 o17 o18 o19 o20 o21 o22 o23 o24 : Oper} {rest : List Oper} {v : Value} {fuel : Nat} {listed : Array Bool} {a : Act} {w : World}
  (hs : Region.noSelect (o0 :: o1 :: o2 :: o3 :: o4 :: o5 :: o6 :: o7 :: o8 :: o9 :: o10 :: o11 :: o12 :: o13 :: o14 :: o15 :: o16 :: o17 :: o18 :: o19 :: o20 :: o21 :: o22 :: o23 :: o24 :: rest).toArray = true) (hf : Region.free md (o0 :: o1 :: o2 :: o3 :: o4 :: o5 :: o6 :: o7 :: o8 :: o9 :: o10 :: o11 :: o12 :: o13 :: o14 :: o15 :: o16 :: o17 :: o18 :: o19 :: o20 :: o21 :: o22 :: o23 :: o24 :: rest).toArray listed 24 = true) (hr : (Region.ready md (o0 :: o1 :: o2 :: o3 :: o4 :: o5 :: o6 :: o7 :: o8 :: o9 :: o10 :: o11 :: o12 :: o13 :: o14 :: o15 :: o16 :: o17 :: o18 :: o19 :: o20 :: o21 :: o22 :: o23 :: o24 :: rest).toArray listed).contains 24 = true)
  (hQ : ∀ c a w, Q (.panic c) (a.put o24.dst v) w → Q (.panic c) a w) (hy : YieldsIf P (o0 :: o1 :: o2 :: o3 :: o4 :: o5 :: o6 :: o7 :: o8 :: o9 :: o10 :: o11 :: o12 :: o13 :: o14 :: o15 :: o16 :: o17 :: o18 :: o19 :: o20 :: o21 :: o22 :: o23 :: o24 :: rest).toArray S o24 v a) (hS : S w)
  (h : wpAnyH P md (o0 :: o1 :: o2 :: o3 :: o4 :: o5 :: o6 :: o7 :: o8 :: o9 :: o10 :: o11 :: o12 :: o13 :: o14 :: o15 :: o16 :: o17 :: o18 :: o19 :: o20 :: o21 :: o22 :: o23 :: o24 :: rest).toArray Q S fuel (listed.setIfInBounds 24 true) (a.put o24.dst v) w) : wpAnyH P md (o0 :: o1 :: o2 :: o3 :: o4 :: o5 :: o6 :: o7 :: o8 :: o9 :: o10 :: o11 :: o12 :: o13 :: o14 :: o15 :: o16 :: o17 :: o18 :: o19 :: o20 :: o21 :: o22 :: o23 :: o24 :: rest).toArray Q S (fuel + 1) listed a w :=
 wpAnyH_take (i := 24) (oi := o24) rfl hs hf hr hQ hy hS h
theorem ytake_25 {P : Program} {md : Region.Mode} {Q : Exit → Act → World → Prop} {S : World → Prop} {o0 o1 o2 o3 o4 o5 o6 o7 o8 o9 o10 o11 o12 o13 o14 o15 o16 o17 o18 o19 o20 o21 o22 o23 o24 o25 : Oper} {rest : List Oper} {v : Value} {fuel : Nat} {listed : Array Bool} {a : Act} {w : World}
  (hs : Region.noSelect (o0 :: o1 :: o2 :: o3 :: o4 :: o5 :: o6 :: o7 :: o8 :: o9 :: o10 :: o11 :: o12 :: o13 :: o14 :: o15 :: o16 :: o17 :: o18 :: o19 :: o20 :: o21 :: o22 :: o23 :: o24 :: o25 :: rest).toArray = true) (hf : Region.free md (o0 :: o1 :: o2 :: o3 :: o4 :: o5 :: o6 :: o7 :: o8 :: o9 :: o10 :: o11 :: o12 :: o13 :: o14 :: o15 :: o16 :: o17 :: o18 :: o19 :: o20 :: o21 :: o22 :: o23 :: o24 :: o25 :: rest).toArray listed 25 = true) (hr : (Region.ready md (o0 :: o1 :: o2 :: o3 :: o4 :: o5 :: o6 :: o7 :: o8 :: o9 :: o10 :: o11 :: o12 :: o13 :: o14 :: o15 :: o16 :: o17 :: o18 :: o19 :: o20 :: o21 :: o22 :: o23 :: o24 :: o25 :: rest).toArray listed).contains 25 = true)
  (hQ : ∀ c a w, Q (.panic c) (a.put o25.dst v) w → Q (.panic c) a w) (hy : YieldsIf P (o0 :: o1 :: o2 :: o3 :: o4 :: o5 :: o6 :: o7 :: o8 :: o9 :: o10 :: o11 :: o12 :: o13 :: o14 :: o15 :: o16 :: o17 :: o18 :: o19 :: o20 :: o21 :: o22 :: o23 :: o24 :: o25 :: rest).toArray S o25 v a) (hS : S w)
  (h : wpAnyH P md (o0 :: o1 :: o2 :: o3 :: o4 :: o5 :: o6 :: o7 :: o8 :: o9 :: o10 :: o11 :: o12 :: o13 :: o14 :: o15 :: o16 :: o17 :: o18 :: o19 :: o20 :: o21 :: o22 :: o23 :: o24 :: o25 :: rest).toArray Q S fuel (listed.setIfInBounds 25 true) (a.put o25.dst v) w) : wpAnyH P md (o0 :: o1 :: o2 :: o3 :: o4 :: o5 :: o6 :: o7 :: o8 :: o9 :: o10 :: o11 :: o12 :: o13 :: o14 :: o15 :: o16 :: o17 :: o18 :: o19 :: o20 :: o21 :: o22 :: o23 :: o24 :: o25 :: rest).toArray Q S (fuel + 1) listed a w :=
 wpAnyH_take (i := 25) (oi := o25) rfl hs hf hr hQ hy hS h
end Go.Proofs.YteepobghdpnabaaGreat
namespace Go.Proofs.YteepobghdpnabaaGreat
open Go.RowKit

theorem num13_any (n : Int) (w : World) : Calls Tryz.prog 17 #[.int .i64 n] w fun e w' => e = .returned (.int .i64 n) ∧ w = w' := by
 go_enter Tryz.func17, Tryz.ntmps17
 go_wp2
 go_ret
 exact ⟨rfl, rfl⟩

end Go.Proofs.YteepobghdpnabaaGreat
