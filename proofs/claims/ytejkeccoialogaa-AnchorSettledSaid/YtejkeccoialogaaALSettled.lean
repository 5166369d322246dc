/-
  The walk of 'AnchorSettled'.
-/
import Derived.Test.YtejkeccoialogaaARef
import Derived.Test.YtejkeccoialogaaYRRnd
import Derived.Test.YtejkeccoialogaaALaw
import Derived.Test.YtejkeccoialogaaAChain
import Derived.Test.YtejkeccoialogaaYRMay
namespace Go.Proofs.Ytejkeccoialogaa
open Go.RowKit

set_option maxRecDepth 100000 in
set_option maxHeartbeats 8000000 in
theorem anchorSettled_walk (q : AskQ) (w : World) (h : AskQIn w q) : Calls Try.prog 8 #[askQV q] w fun e w' => e = .returned (.bool true) ∧ Below w.heap.size w w' := by
  obtain ⟨g, hg⟩ : ∃ g, g = w.heap.size := ⟨_, rfl⟩
  obtain ⟨w1, hw1⟩ : ∃ w1, w1 = w.alloc (.cells (askQC q).toArray 51) := ⟨_, rfl⟩
  obtain ⟨hb1, hsz, hx0⟩ := boxes1 w _ _ hw1
  rw [← hg] at hb1 hsz hx0
  have HG : Hid (w.heap.size = g) := hg.symm
  have HW : Hid (w.alloc (.cells #[.int .i64 q.N, .int .i64 q.L, .slice q.o.A q.o.n q.o.c, .slice q.oi.A q.oi.n q.oi.c, .slice q.oj.A q.oj.n q.oj.c] 51) = w1) := hw1.symm
  have HB := Lib.hid hb1
  have HX := Lib.hid hx0
  have HQ : Hid (∀ wX, Below g w wX → AskQIn wX q) := fun wX hb => h.below (by rw [← hg]; exact hb)
  have HH := Lib.hid (heavyA_is q w1 (h.below (by rw [← hg]; exact hb1)))
  have HD : Hid (∀ wX, Below w1.heap.size w1 wX → wX.cell? ⟨g, 0, none⟩ = some (.int .i64 q.N) ∧ wX.cell? ⟨g, 1, none⟩ = some (.int .i64 q.L) ∧ wX.cell? ⟨g, 2, none⟩ = some (.slice q.o.A q.o.n q.o.c) ∧ wX.cell? ⟨g, 3, none⟩ = some (.slice q.oi.A q.oi.n q.oi.c) ∧ wX.cell? ⟨g, 4, none⟩ = some (.slice q.oj.A q.oj.n q.oj.c)) := fun wX hb => askQ_cells (HX.out.below hb HX.out.1)
  obtain ⟨a0, a1, a2, a3, a4⟩ := askQ_cells hx0
  have hgs := hx0.1
  clear hg hw1 hb1 hsz hx0 h
  rw [HG.out]
  unfold askQV at HH ⊢
  go_enter Try.func8, Try.ntmps8
  go_upto_region 1 with fail
  rw [HG.out, HW.out]
  go_wp2_with (go_at_call 24; refine HH.out.mono ?_; rintro e w2 ⟨b, rfl, hlight, hb2⟩; obtain ⟨e0, e1, e2, e3, e4⟩ := HD.out w2 hb2; cases b)
  · have hbw2 := HB.out.trans (hb2.mono (Nat.le_of_lt hgs))
    have HGI : Hid (∀ wX, Below w1.heap.size w1 wX → GIn wX q.o q.l) := fun wX hb => (HQ.out wX (HB.out.trans (hb.mono (Nat.le_of_lt hgs)))).d.gin (hlight (by simp)).d (by decide)
    have hn30 : q.oi.n ≤ 30 := by have := (hlight (by simp)).i; have := (HQ.out _ hbw2).i.len; omega
    have hn30j : q.oj.n ≤ 30 := by have := (hlight (by simp)).j; have := (HQ.out _ hbw2).j.len; omega
    have HLI : Hid (q.zs.length = q.oi.n) := (HQ.out _ hbw2).i.len
    have HLJ : Hid (q.ws.length = q.oj.n) := (HQ.out _ hbw2).j.len
    have HWJ : Hid (I64s q.ws) := (HQ.out _ hbw2).wj
    have HB12 := Lib.hid hb2
    have HSML : Hid (q.l.length ≤ 80) := by show _ ≤ _; have := (hlight (by simp)).d.1; rw [AskQ.l, List.length_map]; exact this
    clear hlight HH
    have HMY : Hid (∀ wX, Below w1.heap.size w1 wX → Calls Try.prog 25 #[.agg #[.int .i64 q.N, .int .i64 q.L, .slice q.o.A q.o.n q.o.c]] wX (RetMay q.N q.L q.l wX)) := fun wX hb => rMay_is q.N q.L q.o q.l wX (HGI.out wX hb)
    go_wp2_with (go_at_call 25; refine (HMY.out _ hb2).mono ?_; rintro e w3 ⟨bm, rfl, hbm, hb3⟩; have HBM := Lib.hid hbm; clear hbm; have hb13 := hb2.trans (hb3.mono hb2.size); obtain ⟨t0, t1, t2, t3, t4⟩ := HD.out w3 hb13; cases bm)
    · go_ret
      exact ⟨rfl, HB.out.trans ((hb2.trans (hb3.mono hb2.size)).mono (Nat.le_of_lt hgs))⟩
    · have HM : Hid (MayG q.N q.L q.l) := HBM.out.1 (by first | rfl | trivial)
      have HB13 : Hid (Below w1.heap.size w1 w3) := hb2.trans (hb3.mono hb2.size)
      have HLEN : Hid (q.l.length = q.o.n) := (HGI.out _ hb2).len
      have hfew := (HGI.out _ hb2).few
      have hL0 := HM.out.l0
      have hL1 := HM.out.l1
      have HTP : Hid (∀ wX, Below w1.heap.size w1 wX → _) := fun wX hb => rTop_is q.N q.L q.o q.l wX (HGI.out wX hb)
      have htop := top_most HM.out
      unfold dagV at HTP
      obtain ⟨tp, htp⟩ : ∃ tp, topC q.l = tp := ⟨_, rfl⟩
      rw [htp] at HTP htop
      obtain ⟨fi, hfi⟩ : ∃ fi, fi = if 0 < q.L then q.L + 2 + q.L % 2 else 2 := ⟨_, rfl⟩
      have hfi0 : 2 ≤ fi ∧ fi % 2 = 0 ∧ q.L ≤ fi - 2 ∧ fi ≤ 1099511627780 := by
        rw [hfi]
        split <;> omega
      have HFI := Lib.hid hfi
      have HPOS : Hid (1 ≤ q.N) := (MayG.pos HM.out).1
      have hb13' := HB13.out
      clear e0 e1 e2 e3 e4 t0 t1 t2 t3 t4 hb3 hb2 HMY HBM hbw2 htp hfi hb13
      go_upto_region 5 with (go_at_call 39; refine (HTP.out _ hb13').mono ?_; rintro e w5 ⟨rfl, hb5⟩)
      have HB5 : Hid (Below w1.heap.size w1 w5) := hb13'.trans (hb5.mono hb13'.size)
      clear hb5 hb13'
      obtain ⟨e0, e1, e2, e3, e4⟩ := HD.out w5 HB5.out
      by_cases hL : 0 < q.L
      · obtain hfe : fi = q.L + 2 + q.L % 2 := by rw [HFI.out, if_pos hL]
        subst hfe
        clear HFI
        go_wp2_with fail
        clear e0 e1 e2 e3 e4
        go_loopw [5] (fun i wr => ∃ r : Int, i = .int .i64 r ∧ Hid (2 ≤ r ∧ r % 2 = 0 ∧ q.L ≤ r - 2 ∧ r ≤ 1099511627800) ∧ Hid (Below w1.heap.size w1 wr)) (fun i _ => (tp + 4 - intOf i).toNat)
        case atStart => exact ⟨_, rfl, by show _ ∧ _; omega, HB5.out⟩
        case round =>
          clear a0 a1 a2 a3 a4
          obtain ⟨r, rfl, HR, HBT⟩ := hrel
          have hwr := HBT.out
          have hr2 : 2 ≤ r := HR.out.1
          have hr3 : r ≤ 1099511627800 := HR.out.2.2.2
          obtain ⟨e0, e1, e2, e3, e4⟩ := HD.out wr hwr
          by_cases hgo : r ≤ tp ∧ r < (q.L + 2 + q.L % 2) + 40
          · obtain ⟨hg1, hg2⟩ := hgo
            have HEV : Hid (evn r = true) := by
              show _ = _
              have := HR.out
              unfold evn
              rw [decide_eq_true_eq]
              exact ⟨by omega, by omega, by omega⟩
            have HDI : Hid (∀ wX, Below w1.heap.size w1 wX → _) := fun wX hb => direct_is q.N q.L r q.o q.l wX (HGI.out wX hb) HM.out HEV.out
            unfold dagV at HDI
            cases hd : dirC q.N q.l r with
            | false =>
              rw [hd] at HDI
              clear hd
              go_wp2_with (first
                | (go_at_call 34; refine (HDI.out _ hwr).mono ?_; rintro e w6 ⟨rfl, hb6⟩)
                | (go_at_call 29; refine (numA_any _ _).mono ?_; rintro e w9 ⟨rfl, h9⟩; obtain rfl := h9))
              have HB8 : Hid (Below w1.heap.size w1 w6) := hwr.trans (hb6.mono hwr.size)
              go_roundw
              case rel => exact ⟨r + 2, rfl, by show _ ∧ _; have := HR.out; omega, HB8.out⟩
              case measure => simp [intOf]; omega
            | true =>
              have HV : Hid (q.N / 3 + 1 ≤ votC q.N q.l r) := by
                show _ ≤ _
                simpa [dirC] using hd
              rw [hd] at HDI
              clear hd
              obtain ⟨z, hz⟩ : ∃ z, ancC q.N q.l r = some z := by
                cases hz : ancC q.N q.l r with
                | some z => exact ⟨z, rfl⟩
                | none =>
                  have h1 := HV.out
                  rw [votC_none hz] at h1
                  have := HPOS.out
                  omega
              have HZ := Lib.hid hz
              have HAN : Hid (∀ wX, Below w1.heap.size w1 wX → _) := fun wX hb => anchor_is q.N q.L r q.o q.l wX (HGI.out wX hb) HM.out HEV.out
              rw [ancN_some hz, ancE_some hz] at HAN
              unfold dagV at HAN
              clear hz
              go_upto_region 18 with (first
                | (go_at_call 34; refine (HDI.out _ hwr).mono ?_; rintro e w6 ⟨rfl, hb6⟩; have hw6 := hwr.trans (hb6.mono hwr.size); obtain ⟨c0, c1, c2, c3, c4⟩ := HD.out w6 hw6)
                | (go_at_call 28; refine (HAN.out _ hw6).mono ?_; rintro e w7 ⟨rfl, hb7⟩)
                | (go_at_call 29; refine (numA_any _ _).mono ?_; rintro e w9 ⟨rfl, h9⟩; obtain rfl := h9))
              have HB7 : Hid (Below w1.heap.size w1 w7) := hw6.trans (hb7.mono hw6.size)
              clear c0 c1 c2 c3 c4 e0 e1 e2 e3 e4 hb6 hb7 hw6
              go_loopw [10] (fun i wq => ∃ p : Int, i = .int .i64 p ∧ Hid (r < p ∧ p % 2 = 0 ∧ p ≤ 1099511627810) ∧ Hid (Below w1.heap.size w1 wq)) (fun i _ => (tp + 4 - intOf i).toNat)
              case atStart => exact ⟨r + 2, rfl, by show _ ∧ _; have := HR.out; omega, HB7.out⟩
              case round =>
                obtain ⟨p, rfl, HP, HBP⟩ := hrel
                have hwp := HBP.out
                have hp3 : p ≤ 1099511627810 := HP.out.2.2
                have hp2 : r < p := HP.out.1
                by_cases hpt : p ≤ tp
                · have hev2 : evn p = true := by
                    have := HP.out
                    unfold evn
                    rw [decide_eq_true_eq]
                    exact ⟨by omega, by omega, by omega⟩
                  have hch : chnB (r - 2) p = true := by
                    have := HP.out
                    have := HR.out
                    unfold chnB
                    rw [decide_eq_true_eq]
                    exact ⟨by omega, by omega, by omega⟩
                  obtain ⟨e0, e1, e2, e3, e4⟩ := HD.out _ hwp
                  cases hac : ancC q.N q.l p with
                  | none =>
                    have HCH : Hid (∀ wX, Below w1.heap.size w1 wX → _) := fun wX hb => chain_none q.N q.L (r - 2) p q.o q.l wX (HGI.out wX hb) HM.out hev2 hch hac
                    unfold dagV at HCH
                    clear hev2 hch hac
                    go_wp2_with (first
                      | (go_at_call 36; refine (HCH.out _ hwp).mono ?_; rintro e w8 ⟨rfl, hb8⟩)
                      | (go_at_call 29; refine (numA_any _ _).mono ?_; rintro e w9 ⟨rfl, h9⟩; obtain rfl := h9))
                    have HB8 : Hid (Below w1.heap.size w1 w8) := hwp.trans (hb8.mono hwp.size)
                    go_roundw
                    case rel => exact ⟨p + 2, rfl, by show _ ∧ _; have := HP.out; omega, HB8.out⟩
                    case measure => simp [intOf]; omega
                  | some x =>
                    have HCH : Hid (∀ wX, Below w1.heap.size w1 wX → _) := fun wX hb => chain_ok q.N q.L (r - 2) p q.o q.l x wX (HGI.out wX hb) HM.out hev2 hch hac
                    have HIN2 : Hid (inB ((chainC q.N q.L q.l (r - 2) p x).map CrtD.d) z.d = true) := inB_iff.2 (List.mem_map.2 ⟨z, few_chain HM.out HEV.out hev2 hp2 HZ.out HV.out hac, rfl⟩)
                    have hcl : ((chainC q.N q.L q.l (r - 2) p x).map CrtD.d).length ≤ 80 := by rw [List.length_map]; exact Nat.le_trans (chain_facts (L := q.L) hev2 hch hac).len HSML.out
                    obtain ⟨v, hv⟩ : ∃ v, v = (chainC q.N q.L q.l (r - 2) p x).map CrtD.d := ⟨_, rfl⟩
                    rw [← hv] at HCH HIN2 hcl
                    unfold dagV at HCH
                    clear hev2 hch hac hv
                    go_upto_region 22 with (first
                      | (go_at_call 36; refine (HCH.out _ hwp).mono ?_; rintro e w8 ⟨⟨A8, n8, q8⟩, rfl, ho8, hl8, hb8⟩)
                      | (go_at_call 29; refine (numA_any _ _).mono ?_; rintro e w9 ⟨rfl, h9⟩; obtain rfl := h9))
                    have HI8 := Lib.hid (inA_is z.d ⟨A8, n8, q8⟩ v w8 hl8 (rd_of_own ho8).2.2 (by have e : v.length = n8 := hl8; show n8 ≤ _; omega))
                    rw [HIN2.out] at HI8
                    have HB8 : Hid (Below w1.heap.size w1 w8) := hwp.trans (hb8.mono hwp.size)
                    clear ho8 hl8 hb8
                    go_wp2_with (first
                      | (go_at_call 40; refine HI8.out.mono ?_; rintro e w9 ⟨zi, rfl, hzi, h9⟩; obtain rfl : w8 = w9 := h9.symm; have hzi2 : ¬ zi < 0 := by have := of_decide_eq_true hzi; omega)
                      | (go_at_call 29; refine (numA_any _ _).mono ?_; rintro e w9 ⟨rfl, h9⟩; obtain rfl := h9))
                    go_roundw
                    case rel => exact ⟨p + 2, rfl, by show _ ∧ _; have := HP.out; omega, HB8.out⟩
                    case measure => simp [intOf]; omega
                · go_wp2_with fail
                  go_roundw
                  case rel => exact ⟨r + 2, rfl, by show _ ∧ _; have := HR.out; omega, HBP.out⟩
                  case measure => simp [intOf]; omega
          · have hbr := HB.out.trans (HBT.out.mono (Nat.le_of_lt hgs))
            have hsr := HBT.out.size
            rcases Classical.em (r ≤ tp) with h1 | h1
            · have h2 : ¬ r < (q.L + 2 + q.L % 2) + 40 := fun h2 => hgo ⟨h1, h2⟩
              clear hgo
              go_wp2_with (go_at_call 30; refine (wakesA_any _).mono ?_; rintro e w5 ⟨rfl, hb5⟩)
              go_ret
              exact ⟨rfl, hbr.trans (hb5.mono (Nat.le_trans (Nat.le_of_lt hgs) hsr))⟩
            · clear hgo
              go_wp2_with (go_at_call 30; refine (wakesA_any _).mono ?_; rintro e w5 ⟨rfl, hb5⟩)
              go_ret
              exact ⟨rfl, hbr.trans (hb5.mono (Nat.le_trans (Nat.le_of_lt hgs) hsr))⟩
      · obtain hfe : fi = 2 := by rw [HFI.out, if_neg hL]
        subst hfe
        clear HFI
        go_wp2_with fail
        clear e0 e1 e2 e3 e4
        go_loopw [5] (fun i wr => ∃ r : Int, i = .int .i64 r ∧ Hid (2 ≤ r ∧ r % 2 = 0 ∧ q.L ≤ r - 2 ∧ r ≤ 1099511627800) ∧ Hid (Below w1.heap.size w1 wr)) (fun i _ => (tp + 4 - intOf i).toNat)
        case atStart => exact ⟨_, rfl, by show _ ∧ _; omega, HB5.out⟩
        case round =>
          clear a0 a1 a2 a3 a4
          obtain ⟨r, rfl, HR, HBT⟩ := hrel
          have hwr := HBT.out
          have hr2 : 2 ≤ r := HR.out.1
          have hr3 : r ≤ 1099511627800 := HR.out.2.2.2
          obtain ⟨e0, e1, e2, e3, e4⟩ := HD.out wr hwr
          by_cases hgo : r ≤ tp ∧ r < 2 + 40
          · obtain ⟨hg1, hg2⟩ := hgo
            have HEV : Hid (evn r = true) := by
              show _ = _
              have := HR.out
              unfold evn
              rw [decide_eq_true_eq]
              exact ⟨by omega, by omega, by omega⟩
            have HDI : Hid (∀ wX, Below w1.heap.size w1 wX → _) := fun wX hb => direct_is q.N q.L r q.o q.l wX (HGI.out wX hb) HM.out HEV.out
            unfold dagV at HDI
            cases hd : dirC q.N q.l r with
            | false =>
              rw [hd] at HDI
              clear hd
              go_wp2_with (first
                | (go_at_call 34; refine (HDI.out _ hwr).mono ?_; rintro e w6 ⟨rfl, hb6⟩)
                | (go_at_call 29; refine (numA_any _ _).mono ?_; rintro e w9 ⟨rfl, h9⟩; obtain rfl := h9))
              have HB8 : Hid (Below w1.heap.size w1 w6) := hwr.trans (hb6.mono hwr.size)
              go_roundw
              case rel => exact ⟨r + 2, rfl, by show _ ∧ _; have := HR.out; omega, HB8.out⟩
              case measure => simp [intOf]; omega
            | true =>
              have HV : Hid (q.N / 3 + 1 ≤ votC q.N q.l r) := by
                show _ ≤ _
                simpa [dirC] using hd
              rw [hd] at HDI
              clear hd
              obtain ⟨z, hz⟩ : ∃ z, ancC q.N q.l r = some z := by
                cases hz : ancC q.N q.l r with
                | some z => exact ⟨z, rfl⟩
                | none =>
                  have h1 := HV.out
                  rw [votC_none hz] at h1
                  have := HPOS.out
                  omega
              have HZ := Lib.hid hz
              have HAN : Hid (∀ wX, Below w1.heap.size w1 wX → _) := fun wX hb => anchor_is q.N q.L r q.o q.l wX (HGI.out wX hb) HM.out HEV.out
              rw [ancN_some hz, ancE_some hz] at HAN
              unfold dagV at HAN
              clear hz
              go_upto_region 18 with (first
                | (go_at_call 34; refine (HDI.out _ hwr).mono ?_; rintro e w6 ⟨rfl, hb6⟩; have hw6 := hwr.trans (hb6.mono hwr.size); obtain ⟨c0, c1, c2, c3, c4⟩ := HD.out w6 hw6)
                | (go_at_call 28; refine (HAN.out _ hw6).mono ?_; rintro e w7 ⟨rfl, hb7⟩)
                | (go_at_call 29; refine (numA_any _ _).mono ?_; rintro e w9 ⟨rfl, h9⟩; obtain rfl := h9))
              have HB7 : Hid (Below w1.heap.size w1 w7) := hw6.trans (hb7.mono hw6.size)
              clear c0 c1 c2 c3 c4 e0 e1 e2 e3 e4 hb6 hb7 hw6
              go_loopw [10] (fun i wq => ∃ p : Int, i = .int .i64 p ∧ Hid (r < p ∧ p % 2 = 0 ∧ p ≤ 1099511627810) ∧ Hid (Below w1.heap.size w1 wq)) (fun i _ => (tp + 4 - intOf i).toNat)
              case atStart => exact ⟨r + 2, rfl, by show _ ∧ _; have := HR.out; omega, HB7.out⟩
              case round =>
                obtain ⟨p, rfl, HP, HBP⟩ := hrel
                have hwp := HBP.out
                have hp3 : p ≤ 1099511627810 := HP.out.2.2
                have hp2 : r < p := HP.out.1
                by_cases hpt : p ≤ tp
                · have hev2 : evn p = true := by
                    have := HP.out
                    unfold evn
                    rw [decide_eq_true_eq]
                    exact ⟨by omega, by omega, by omega⟩
                  have hch : chnB (r - 2) p = true := by
                    have := HP.out
                    have := HR.out
                    unfold chnB
                    rw [decide_eq_true_eq]
                    exact ⟨by omega, by omega, by omega⟩
                  obtain ⟨e0, e1, e2, e3, e4⟩ := HD.out _ hwp
                  cases hac : ancC q.N q.l p with
                  | none =>
                    have HCH : Hid (∀ wX, Below w1.heap.size w1 wX → _) := fun wX hb => chain_none q.N q.L (r - 2) p q.o q.l wX (HGI.out wX hb) HM.out hev2 hch hac
                    unfold dagV at HCH
                    clear hev2 hch hac
                    go_wp2_with (first
                      | (go_at_call 36; refine (HCH.out _ hwp).mono ?_; rintro e w8 ⟨rfl, hb8⟩)
                      | (go_at_call 29; refine (numA_any _ _).mono ?_; rintro e w9 ⟨rfl, h9⟩; obtain rfl := h9))
                    have HB8 : Hid (Below w1.heap.size w1 w8) := hwp.trans (hb8.mono hwp.size)
                    go_roundw
                    case rel => exact ⟨p + 2, rfl, by show _ ∧ _; have := HP.out; omega, HB8.out⟩
                    case measure => simp [intOf]; omega
                  | some x =>
                    have HCH : Hid (∀ wX, Below w1.heap.size w1 wX → _) := fun wX hb => chain_ok q.N q.L (r - 2) p q.o q.l x wX (HGI.out wX hb) HM.out hev2 hch hac
                    have HIN2 : Hid (inB ((chainC q.N q.L q.l (r - 2) p x).map CrtD.d) z.d = true) := inB_iff.2 (List.mem_map.2 ⟨z, few_chain HM.out HEV.out hev2 hp2 HZ.out HV.out hac, rfl⟩)
                    have hcl : ((chainC q.N q.L q.l (r - 2) p x).map CrtD.d).length ≤ 80 := by rw [List.length_map]; exact Nat.le_trans (chain_facts (L := q.L) hev2 hch hac).len HSML.out
                    obtain ⟨v, hv⟩ : ∃ v, v = (chainC q.N q.L q.l (r - 2) p x).map CrtD.d := ⟨_, rfl⟩
                    rw [← hv] at HCH HIN2 hcl
                    unfold dagV at HCH
                    clear hev2 hch hac hv
                    go_upto_region 22 with (first
                      | (go_at_call 36; refine (HCH.out _ hwp).mono ?_; rintro e w8 ⟨⟨A8, n8, q8⟩, rfl, ho8, hl8, hb8⟩)
                      | (go_at_call 29; refine (numA_any _ _).mono ?_; rintro e w9 ⟨rfl, h9⟩; obtain rfl := h9))
                    have HI8 := Lib.hid (inA_is z.d ⟨A8, n8, q8⟩ v w8 hl8 (rd_of_own ho8).2.2 (by have e : v.length = n8 := hl8; show n8 ≤ _; omega))
                    rw [HIN2.out] at HI8
                    have HB8 : Hid (Below w1.heap.size w1 w8) := hwp.trans (hb8.mono hwp.size)
                    clear ho8 hl8 hb8
                    go_wp2_with (first
                      | (go_at_call 40; refine HI8.out.mono ?_; rintro e w9 ⟨zi, rfl, hzi, h9⟩; obtain rfl : w8 = w9 := h9.symm; have hzi2 : ¬ zi < 0 := by have := of_decide_eq_true hzi; omega)
                      | (go_at_call 29; refine (numA_any _ _).mono ?_; rintro e w9 ⟨rfl, h9⟩; obtain rfl := h9))
                    go_roundw
                    case rel => exact ⟨p + 2, rfl, by show _ ∧ _; have := HP.out; omega, HB8.out⟩
                    case measure => simp [intOf]; omega
                · go_wp2_with fail
                  go_roundw
                  case rel => exact ⟨r + 2, rfl, by show _ ∧ _; have := HR.out; omega, HBP.out⟩
                  case measure => simp [intOf]; omega
          · have hbr := HB.out.trans (HBT.out.mono (Nat.le_of_lt hgs))
            have hsr := HBT.out.size
            rcases Classical.em (r ≤ tp) with h1 | h1
            · have h2 : ¬ r < 2 + 40 := fun h2 => hgo ⟨h1, h2⟩
              clear hgo
              go_wp2_with (go_at_call 30; refine (wakesA_any _).mono ?_; rintro e w5 ⟨rfl, hb5⟩)
              go_ret
              exact ⟨rfl, hbr.trans (hb5.mono (Nat.le_trans (Nat.le_of_lt hgs) hsr))⟩
            · clear hgo
              go_wp2_with (go_at_call 30; refine (wakesA_any _).mono ?_; rintro e w5 ⟨rfl, hb5⟩)
              go_ret
              exact ⟨rfl, hbr.trans (hb5.mono (Nat.le_trans (Nat.le_of_lt hgs) hsr))⟩
  · go_wp2_with fail
    go_ret
    exact ⟨rfl, HB.out.trans (hb2.mono (Nat.le_of_lt hgs))⟩

end Go.Proofs.Ytejkeccoialogaa
