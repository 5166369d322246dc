/-
  The walk of 'DagOrders'.
-/
import Derived.Test.YtejkeccoialogaaYRRnd
import Derived.Test.YtejkeccoialogaaYOrdP
import Derived.Test.YtejkeccoialogaaCalm
import Derived.Deep.RegionHeld3
import Derived.Deep.CutBlock
namespace Go.Proofs.Ytejkeccoialogaa
open Go.RowKit

/-- a row of certificates, each with lists of its own, which it may share with another row -/
structure LefY (B : Nat) (w : World) (o : Ad) (ms : List (CrtD × CrtA)) : Prop where
  row : w.ownsRow B 37 6 o.v o.n (cellsY ms)
  len : ms.length = o.n
  sub : ∀ x ∈ ms, CNew B w x.1 x.2
section
variable {B : Nat} {w w' : World} {o o2 : Ad} {ms ns : List (CrtD × CrtA)} {F : Nat → Prop}
theorem LefY.of (h : OwnY B w o ms) : LefY B w o ms := ⟨h.row, h.len, h.sub⟩
theorem LefY.none (B : Nat) (w : World) : LefY B w noAd [] := ⟨World.ownsRow_nil _ _ _ _, rfl, fun x hx => by simp at hx⟩
theorem LefY.below (h : LefY B w o ms) (hb : Below w.heap.size w w') : LefY B w' o ms := ⟨ownS_below h.row hb, h.len, fun x hx => (h.sub x hx).below hb⟩
theorem LefY.touch (h : LefY B w o ms) (ht : Touch F w w') (hF : ∀ k, F k → k < B) : LefY B w' o ms :=
  ⟨own_touch h.row ht hF, h.len, fun x hx => (h.sub x hx).touch ht fun k hk hh => by have := ((h.sub x hx).lt hh).2; have := hF k hk; omega⟩
theorem LefY.apart (h : LefY B w o ms) (h2 : LefY B w o2 ns) {x : CrtD × CrtA} (hx : x ∈ ms) {k : Nat} (hk : o2.v.ownBlock = some k) : ¬ x.2.has k := fun hh => by
  obtain ⟨cur, h1⟩ := own_typeZ h2.row hk
  obtain ⟨cur', h3⟩ := (h.sub x hx).typ hh
  rw [h1] at h3
  cases h3
theorem LefY.of_more {B' : Nat} (h : LefY B w o ms) (hB : B' ≤ B) : LefY B' w o ms := ⟨ownS_more h.row hB, h.len, fun x hx => (h.sub x hx).more hB⟩
/-- what another row's growing leaves -/
theorem LefY.far (h : LefY B w o ms) (h2 : LefY B w o2 ns) (hne : ∀ k, o2.v.ownBlock = some k → o.v.ownBlock ≠ some k) (ht : Touch (fun k => o2.v.ownBlock = some k) w w') : LefY B w' o ms :=
  ⟨own_kept h.row fun k hk hl => ht.block k hl fun hf => hne k hf hk, h.len, fun x hx => (h.sub x hx).touch ht fun _ hk => h.apart h2 hx hk⟩
/-- one more, which another row has -/
theorem LefY.push (h : LefY B w o ms) (h2 : LefY B w o2 ns) {x : CrtD × CrtA} (hx : x ∈ ns) (ht : Touch (fun k => o.v.ownBlock = some k) w w') {o' : Ad} (hr : w'.ownsRow B 37 6 o'.v o'.n (cellsY ms ++ crtC x.1 x.2)) (hn : o'.n = o.n + 1) : LefY B w' o' (ms ++ [x]) := by
  refine ⟨by rw [cellsY_append, cellsY_one]; exact hr, by rw [List.length_append, h.len, hn]; rfl, fun y hy => ?_⟩
  rcases List.mem_append.1 hy with hy | hy
  · exact (h.sub y hy).touch ht fun _ hk => h.apart h hy hk
  · have e : y = x := by simpa using hy
    subst e
    exact (h2.sub y hx).touch ht fun _ hk => h2.apart h hx hk
theorem LefY.gin (h : LefY B w o ms) (hf : ∀ x ∈ ms, CrtFit x.1) (hl : ms.length ≤ 1000000) : GIn w o (ms.map Prod.fst) := ⟨ms, ⟨slIn_own h.row h.len, fun x hx => (h.sub x hx).in_, hf, hl⟩, rfl⟩
end
def lenV : Value → Nat
  | .slice _ n _ => n
  | _ => 0
/-- the order of a pass -/
def ordF (k n : Nat) (i : Nat) : Nat := if k = 1 then (if n % 7 = 0 then i else (i * 7 + 3) % n) else n - 1 - i
theorem ordF_once {k n : Nat} (h0 : 0 < n) (h1 : n ≤ 30) : OnceAt n (ordF k n) := by
  unfold ordF
  by_cases hk : k = 1
  · simp only [hk, if_true]
    by_cases h7 : n % 7 = 0
    · simp only [h7, if_true]; exact once_same n
    · simp only [h7, if_false]; exact once_seven h0 h1 h7
  · simp only [hk, if_false]; exact once_back n

set_option maxRecDepth 100000 in
set_option maxHeartbeats 8000000 in
theorem dagOrders_walk (q : AskD) (w : World) (h : AskIn w q) : Calls Try.prog 4 #[askV q] w fun e w' => e = .returned (.bool true) ∧ Below w.heap.size w w' := by
  obtain ⟨g, hg⟩ : ∃ g, g = w.heap.size := ⟨_, rfl⟩
  obtain ⟨w1, hw1⟩ : ∃ w1, w1 = w.alloc (.cells (askC q).toArray 28) := ⟨_, rfl⟩
  obtain ⟨hb1, hsz, hx0⟩ := boxes1 w _ _ hw1
  rw [← hg] at hb1 hsz hx0
  have HG : Hid (w.heap.size = g) := hg.symm
  have HW : Hid (w.alloc (.cells #[.int .i64 q.N, .int .i64 q.L, .slice q.o.A q.o.n q.o.c, .slice q.oc.A q.oc.n q.oc.c, .slice q.oi.A q.oi.n q.oi.c, .slice q.op.A q.op.n q.op.c] 28) = w1) := hw1.symm
  have HB := Lib.hid hb1
  have HX := Lib.hid hx0
  have HQ : Hid (∀ wX, Below g w wX → AskIn wX q) := fun wX hb => h.below (by rw [← hg]; exact hb)
  have HH := Lib.hid (heavy_is q w1 (h.below (by rw [← hg]; exact hb1)))
  have HD : Hid (∀ wX, Below w1.heap.size w1 wX → wX.cell? ⟨g, 0, none⟩ = some (.int .i64 q.N) ∧ wX.cell? ⟨g, 1, none⟩ = some (.int .i64 q.L) ∧ wX.cell? ⟨g, 2, none⟩ = some (.slice q.o.A q.o.n q.o.c) ∧ wX.cell? ⟨g, 3, none⟩ = some (.slice q.oc.A q.oc.n q.oc.c) ∧ wX.cell? ⟨g, 4, none⟩ = some (.slice q.oi.A q.oi.n q.oi.c) ∧ wX.cell? ⟨g, 5, none⟩ = some (.slice q.op.A q.op.n q.op.c)) := fun wX hb => ask_cells (HX.out.below hb HX.out.1)
  obtain ⟨a0, a1, a2, a3, a4, a5⟩ := ask_cells hx0
  have hgs := hx0.1
  clear hg hw1 hb1 hsz hx0 h
  rw [HG.out]
  unfold askV at HH ⊢
  go_enter Try.func4, Try.ntmps4
  go_upto_region 1 with fail
  rw [HG.out, HW.out]
  go_wp2_with (go_at_call 10; refine HH.out.mono ?_; rintro e w2 ⟨b, rfl, hlight, hb2⟩; obtain ⟨e0, e1, e2, e3, e4, e5⟩ := HD.out w2 hb2; cases b)
  · have hbw2 := HB.out.trans (hb2.mono (Nat.le_of_lt hgs))
    have HGI : Hid (∀ wX, Below w1.heap.size w1 wX → GIn wX q.o q.l) := fun wX hb => (HQ.out wX (HB.out.trans (hb.mono (Nat.le_of_lt hgs)))).d.gin (hlight (by simp)).d (by decide)
    have HGC : Hid (∀ wX, Below w1.heap.size w1 wX → GIn wX q.oc q.lc) := fun wX hb => (HQ.out wX (HB.out.trans (hb.mono (Nat.le_of_lt hgs)))).c.gin (hlight (by simp)).c (by decide)
    have hn40 : q.oi.n ≤ 40 := by have := (hlight (by simp)).i; have := (HQ.out _ hbw2).i.len; omega
    have hp40 : q.op.n ≤ 40 := by have := (hlight (by simp)).p; have := (HQ.out _ hbw2).p.len; omega
    have hc40 : q.oc.n ≤ 40 := by have := (hlight (by simp)).c.1; have := (HQ.out _ hbw2).c.row.len; omega
    have HLI : Hid (q.zs.length = q.oi.n) := (HQ.out _ hbw2).i.len
    have HLC : Hid (q.lc.length = q.oc.n) := (HGC.out _ hb2).len
    have HLL : Hid (q.l.length ≤ 1000000) := by have := (HGI.out _ hb2).len; have := (HGI.out _ hb2).few; show _ ≤ _; omega
    have HB12 := Lib.hid hb2
    clear hlight HH
    have h30 : q.o.n ≤ 30 := by omega
    have i30 : ¬ ((30 : Int) < (q.o.n : Int)) := by omega
    · skip
      by_cases hm : MayG q.N q.L q.l
      · have HCK := Lib.hid (check_ok (HGI.out w2 hb2) hm)
        unfold dagV at HCK
        by_cases hL : q.L = 0
        · have jl : (q.L != 0) = false := by simp [hL]
          have HLZ := Lib.hid hL
          have HM : Hid (MayG q.N 0 q.l) := by show MayG _ _ _; rw [← hL]; exact hm
          have HFT : Hid (∀ x ∈ q.l, CrtFit x) := fun x hx => (HGI.out w2 hb2).fit hx
          have HL30 : Hid (q.l.length ≤ 30) := by show _ ≤ _; rw [(HGI.out w2 hb2).len]; exact h30
          clear hm hL
          go_upto_region 3 with (first
            | (go_at_call 21; refine HCK.out.mono ?_; rintro e w3 ⟨rfl, hb3⟩; have hb13 := hb2.trans (hb3.mono hb2.size); obtain ⟨t0, t1, t2, t3, t4, t5⟩ := HD.out w3 hb13)
            | (go_at_call 16; refine (numY_any _ _).mono ?_; rintro e wn ⟨rfl, rfl⟩))
          have HB3 : Hid (Below w1.heap.size w1 w3) := hb13
          clear e0 e1 e2 e3 e4 e5 t0 t1 t2 t3 t4 t5 hb13 hb3 hb2 jl
          go_wp2_with fail
          go_loopw [3] (fun i wr => ∃ k : Nat, i = .int .i64 k ∧ k ≤ 2 ∧ Hid (Below w1.heap.size w1 wr)) (fun i _ => 2 - (intOf i).toNat)
          case atStart => exact ⟨0, rfl, by omega, HB3.out⟩
          case round =>
            clear a0 a1 a2 a3 a4 a5
            obtain ⟨k, rfl, hk, HBK⟩ := hrel
            have hwk := HBK.out
            by_cases hk2 : k < 2
            · have j0 : (k : Int) < 2 := by omega
              obtain ⟨e0, e1, e2, e3, e4, e5⟩ := HD.out wr hwk
              have HNW := Lib.hid (new_ok q.N wr HM.out.n)
              unfold dagV at HNW
              go_upto_region 7 with (go_at_call 22; refine HNW.out.mono ?_; rintro e w4 ⟨rfl, hb4⟩; dsimp only [noAd])
              obtain ⟨gd, hgd⟩ : ∃ gd, gd = w4.heap.size := ⟨_, rfl⟩
              obtain ⟨w5, hw5⟩ : ∃ w5, w5 = w4.alloc (.cells (dagC q.N 0 noAd).toArray 24) := ⟨_, rfl⟩
              obtain ⟨hb45, hs5, hx5⟩ := boxes1 w4 _ _ hw5
              rw [← hgd] at hx5 hs5
              have HGDE : Hid (w4.heap.size = gd) := hgd.symm
              have HW5 : Hid (w4.alloc (.cells #[.int .i64 q.N, .int .i64 0, .slice none 0 0] 24) = w5) := hw5.symm
              rw [HGDE.out, HW5.out]
              have hb15 : Below w1.heap.size w1 w5 := hwk.trans ((hb4.trans (hb45.mono hb4.size)).mono hwk.size)
              have HX5 := Lib.hid hx5
              have HS5 : Hid (w5.heap.size = gd + 1) := hs5
              have HGD1 : Hid (w1.heap.size ≤ gd) := by show _ ≤ _; rw [hgd]; have := hwk.size; have := hb4.size; omega
              clear e0 e1 e2 e3 e4 e5 hgd hw5 hb45 hs5 hx5 hb4
              obtain ⟨e0, e1, e2, e3, e4, e5⟩ := HD.out w5 hb15
              have HCC := Lib.hid (copyCerts_is q.o q.l w5 (HGI.out w5 hb15))
              go_upto_region 10 with (first
                | (go_at_call 23; refine HCC.out.mono ?_; rintro e w6 ⟨ol, msl, rfl, hol, hml, hb6⟩)
                | (go_at_call 16; refine (numY_any _ _).mono ?_; rintro e wn ⟨rfl, rfl⟩))
              have HOL : Hid (LefY (gd + 1) w6 ol msl) := (LefY.of hol).of_more (by rw [HS5.out]; exact Nat.le_refl _)
              have HLF : Hid (Lft q.N q.l [] (msl.map Prod.fst)) := by show Lft _ _ _ _; rw [hml]; exact lft_start HM.out
              have HX6 : Hid (Box w6 gd (dagC q.N 0 noAd)) := HX5.out.below hb6 HX5.out.1
              have HB6 : Hid (Below w1.heap.size w1 w6) := hb15.trans (hb6.mono hb15.size)
              clear e0 e1 e2 e3 e4 e5 hol hml hb6 hb15 HX5 HCC HNW hwk
              go_loopw [6] (fun v wr => ∃ (ol : Ad) (msl : List (CrtD × CrtA)) (od : Ad) (msd : List (CrtD × CrtA)), v = .slice ol.A ol.n ol.c ∧ Hid (Lft q.N q.l (msd.map Prod.fst) (msl.map Prod.fst)) ∧ Hid (LefY (gd + 1) wr ol msl) ∧ Hid (LefY (gd + 1) wr od msd) ∧ Hid (Box wr gd (dagC q.N 0 od)) ∧ Hid (Below w1.heap.size w1 wr)) (fun v _ => lenV v)
              case atStart => exact ⟨ol, msl, noAd, [], rfl, HLF.out, HOL.out, LefY.none _ _, HX6.out, HB6.out⟩
              case round =>
                obtain ⟨ol, msl, od, msd, rfl, HLF, HOL, HOD, HXD, HBW⟩ := hrel
                have hln : ol.n ≤ 30 := by
                  rw [← HOL.out.len, ← List.length_map (f := Prod.fst)]
                  exact Nat.le_trans (len_subO HLF.out.nod fun y hy => (HLF.out.lfs y hy).1) HL30.out
                by_cases hpos : 0 < ol.n
                · have i0 : (0 : Int) < (ol.n : Int) := by omega
                  obtain ⟨lf, hlf⟩ : ∃ lf, lf = msl.map Prod.fst := ⟨_, rfl⟩
                  have HLFE : Hid (lf = msl.map Prod.fst) := hlf
                  have HLF2 : Hid (Lft q.N q.l (msd.map Prod.fst) lf) := by show Lft _ _ _ _; rw [hlf]; exact HLF.out
                  have HLFL : Hid (lf.length = ol.n) := by show _ = _; rw [hlf, List.length_map]; exact HOL.out.len
                  have HON : Hid (OnceAt lf.length (ordF k ol.n)) := by show OnceAt _ _; rw [HLFL.out]; exact ordF_once hpos hln
                  clear hlf
                  go_wp2_with fail
                  go_loopw [7, 8] (fun v i wr => ∃ (oa : Ad) (msa : List (CrtD × CrtA)) (od : Ad) (msd : List (CrtD × CrtA)) (j : Nat), v = .slice oa.A oa.n oa.c ∧ i = .int .i64 j ∧ j ≤ ol.n ∧ Hid (Pas q.N q.l lf (ordF k ol.n) j (msd.map Prod.fst) (msa.map Prod.fst)) ∧ Hid (LefY (gd + 1) wr oa msa) ∧ Hid (∀ z, oa.v.ownBlock = some z → ol.v.ownBlock ≠ some z ∧ od.v.ownBlock ≠ some z) ∧ Hid (LefY (gd + 1) wr ol msl) ∧ Hid (LefY (gd + 1) wr od msd) ∧ Hid (Box wr gd (dagC q.N 0 od)) ∧ Hid (Below w1.heap.size w1 wr)) (fun _ i _ => ol.n - (intOf i).toNat)
                  case atStart => exact ⟨noAd, [], od, msd, 0, rfl, rfl, Nat.zero_le _, pas_start HLF2.out _, LefY.none _ _, (fun z hz => by cases hz), HOL.out, HOD.out, HXD.out, HBW.out⟩
                  case round =>
                    clear HOL HOD HXD HBW
                    obtain ⟨oa, msa, od, msd, j, rfl, rfl, hj, HPS, HOA, HNE, HOL, HOD, HXD, HBW⟩ := hrel
                    by_cases hjl : j < ol.n
                    · have i1 : (j : Int) < (ol.n : Int) := by omega
                      go_upto_if 67 with fail
                      go_cut [9] from 68 to 78 (fun v wx => v = .int .i64 ((ordF k ol.n j : Nat) : Int) ∧ ∃ w6, w6 = wx ∧ w6 = wr)
                      case first =>
                        by_cases hk1 : k = 1
                        · have jk : ((k : Int) == 1) = true := by subst hk1; rfl
                          have HK1 : Hid (k = 1) := hk1
                          clear hk1
                          by_cases h7 : ol.n % 7 = 0
                          · have j7 : ((ol.n : Int) % 7 == 0) = true := beq_iff_eq.2 (by omega)
                            have H7 : Hid (ol.n % 7 = 0) := h7
                            clear h7
                            go_wp2_with fail
                            go_meet
                            refine ⟨?_, _, rfl, rfl⟩
                            unfold ordF; rw [if_pos HK1.out, if_pos H7.out]
                          · have j7 : ((ol.n : Int) % 7 == 0) = false := beq_eq_false_iff_ne.2 (by omega)
                            have H7 : Hid (¬ ol.n % 7 = 0) := h7
                            clear h7
                            go_wp2_with fail
                            go_meet
                            refine ⟨?_, _, rfl, rfl⟩
                            unfold ordF; rw [if_pos HK1.out, if_neg H7.out]; first | rfl | (exact congrArg (Value.int .i64) (Int.natCast_emod (j * 7 + 3) ol.n).symm) | (rw [Int.natCast_emod]; rfl) | (rw [Int.ofNat_tmod]; rfl) | (trace_state; fail)
                        · have jk : ((k : Int) == 1) = false := beq_eq_false_iff_ne.2 (by omega)
                          have HK1 : Hid (¬ k = 1) := hk1
                          clear hk1
                          go_wp2_with fail
                          go_meet
                          refine ⟨?_, _, rfl, rfl⟩
                          unfold ordF; rw [if_neg HK1.out]; go_num
                      case rest =>
                        obtain ⟨rfl, w6, rfl, rfl⟩ := hcut
                        obtain ⟨p, hp⟩ : ∃ p, p = ordF k ol.n j := ⟨_, rfl⟩
                        have hpn : p < ol.n := by have := HON.out.lt j (by rw [HLFL.out]; exact hjl); rw [HLFL.out, ← hp] at this; exact this
                        rw [← hp]
                        have HPE : Hid (p = ordF k ol.n j) := hp
                        obtain ⟨⟨x, ax⟩, hmx⟩ : ∃ z, msl[p]? = some z := ⟨_, List.getElem?_eq_getElem (by rw [HOL.out.len]; exact hpn)⟩
                        have hlx : lf[p]? = some x := by rw [HLFE.out, List.getElem?_map, hmx]; rfl
                        have hmem := List.mem_of_getElem? hmx
                        have HXL := Lib.hid hlx
                        have HMX := Lib.hid hmem
                        have HNX := Lib.hid (pas_next HM.out (fun y hy => (HLF2.out.lfs y hy).1) HPS.out (by rw [HLFL.out]; exact hjl) (by rw [← hp]; exact hlx))
                        have hml30 : msl.length ≤ 30 := by rw [HOL.out.len]; exact hln
                        have hrow : RowY w6 ol msl := ⟨slIn_own HOL.out.row HOL.out.len, fun y hy => (HOL.out.sub y hy).in_, fun y hy => HFT.out y.1 (HLF2.out.lfs y.1 (by rw [HLFE.out]; exact List.mem_map_of_mem hy)).1, by omega⟩
                        have hmd30 : msd.length ≤ 30 := by rw [← List.length_map (f := Prod.fst)]; exact Nat.le_trans (len_subO (nodup_asc HPS.out.may.asc) HPS.out.sub) HL30.out
                        have HGD : Hid (GIn w6 od (msd.map Prod.fst)) := HOD.out.gin (fun y hy => HFT.out y.1 (HPS.out.sub y.1 (List.mem_map_of_mem hy))) (by omega)
                        have HMD : Hid (MayG q.N 0 (msd.map Prod.fst)) := HPS.out.may
                        have HFX : Hid (CrtFit x) := HFT.out x HNX.out.2.2.2.2.1
                        have HCX : Hid (∀ wX, Below w6.heap.size w6 wX → CIn wX x ax) := fun wX hb => ((HOL.out.sub (x, ax) hmem).in_).below hb
                        obtain ⟨b, off, hA, hbl, hc⟩ := hrow.cells hmx
                        have HC := Lib.hid hc
                        have HAL : Hid (ol.A = some ⟨b, off, none⟩) := hA
                        have i5 : (p : Int) < (ol.n : Int) := by omega
                        have i6 : (0 : Int) ≤ (p : Int) := by omega
                        rw [hA]
                        clear hp hmx hlx hmem hrow hc hA
                        have HOO : Hid (∀ wX, Below w6.heap.size w6 wX → wX.cell? ⟨gd, 0, none⟩ = some (.int .i64 q.N) ∧ wX.cell? ⟨gd, 1, none⟩ = some (.int .i64 0) ∧ wX.cell? ⟨gd, 2, none⟩ = some (.slice od.A od.n od.c)) := fun wX hb => dag_cells (HXD.out.below hb HXD.out.1)
                        by_cases hlk : lacksC 0 (msd.map Prod.fst) x = []
                        · have HLK : Hid (lacksC 0 (msd.map Prod.fst) x = []) := hlk
                          have HAD : Hid (∀ wX, Below w6.heap.size w6 wX → Calls Try.prog 15 #[dagV q.N 0 od, crtV x ax] wX (AddOk q.N 0 (addC (msd.map Prod.fst) x) wX)) := fun wX hb => add_ok q.N 0 od _ x ax wX (HGD.out.below hb) HMD.out (HCX.out wX hb) HFX.out HNX.out.2.1 HNX.out.2.2.1 HNX.out.2.2.2.1 HLK.out
                          clear hlk
                          unfold dagV crtV at HAD
                          unfold AddOk at HAD
                          have KEEP : Hid (∀ X, Below w6.heap.size w6 X → X.cell? ⟨gd, 0, none⟩ = some (.int .i64 q.N) ∧ X.cell? ⟨gd, 1, none⟩ = some (.int .i64 0) ∧ X.cell? ⟨gd, 2, none⟩ = some (.slice od.A od.n od.c) ∧ X.cell? ⟨b, off + p * 6, none⟩ = some (.int .i64 x.a) ∧ X.cell? ⟨b, off + p * 6 + 1, none⟩ = some (.int .i64 x.r) ∧ X.cell? ⟨b, off + p * 6 + 2, none⟩ = some (.slice ax.B.A ax.B.n ax.B.c) ∧ X.cell? ⟨b, off + p * 6 + 3, none⟩ = some (.slice ax.P.A ax.P.n ax.P.c) ∧ X.cell? ⟨b, off + p * 6 + 4, none⟩ = some (.int .i64 x.d) ∧ X.cell? ⟨b, off + p * 6 + 5, none⟩ = some (.slice ax.S.A ax.S.n ax.S.c)) := fun X hb => by
                            obtain ⟨m0, m1, m2⟩ := HOO.out X hb
                            obtain ⟨c0, c1, c2, c3, c4, c5⟩ := HC.out X hb
                            exact ⟨m0, m1, m2, c0, c1, c2, c3, c4, c5⟩
                          go_upto_region 20 with fail
                          obtain ⟨e0, e1, e2, k0, k1, k2, k3, k4, k5⟩ := KEEP.out w6 (Below.refl _ _)
                          go_region_held3 (fun X => X.cell? ⟨gd, 0, none⟩ = some (.int .i64 q.N) ∧ X.cell? ⟨gd, 1, none⟩ = some (.int .i64 0) ∧ X.cell? ⟨gd, 2, none⟩ = some (.slice od.A od.n od.c) ∧ X.cell? ⟨b, off + p * 6, none⟩ = some (.int .i64 x.a) ∧ X.cell? ⟨b, off + p * 6 + 1, none⟩ = some (.int .i64 x.r) ∧ X.cell? ⟨b, off + p * 6 + 2, none⟩ = some (.slice ax.B.A ax.B.n ax.B.c) ∧ X.cell? ⟨b, off + p * 6 + 3, none⟩ = some (.slice ax.P.A ax.P.n ax.P.c) ∧ X.cell? ⟨b, off + p * 6 + 4, none⟩ = some (.int .i64 x.d) ∧ X.cell? ⟨b, off + p * 6 + 5, none⟩ = some (.slice ax.S.A ax.S.n ax.S.c))
                            ((refine KEEP.out _ ?_; first
                              | with_reducible exact (Below.refl _ _)
                              | with_reducible exact (Below.refl _ _).drew
                              | with_reducible exact ((Below.refl _ _).alloc (Nat.le_refl _) _)
                              | with_reducible exact ((Below.refl _ _).alloc (Nat.le_refl _) _).drew
                              | with_reducible exact hbk8
                              | with_reducible exact (hbk8.alloc hbk8.size _)
                              | exact hbk9 _ _ _))
                            (first
                              | (go_at_call 15; refine (HAD.out _ ?_).mono ?_
                                 · exact (Below.refl _ _).drew
                                 rintro e w8 ⟨oo, mso, rfl, hoo, hmo, hb8⟩; dsimp only [dagV]
                                 have hbk8 : Below w6.heap.size w6 w8 := (Below.refl _ _).drew.trans (hb8.mono (by simp)))
                              | (go_at_call 15; refine (HAD.out _ ?_).mono ?_
                                 · exact ((Below.refl _ _).alloc (Nat.le_refl _) _).drew
                                 rintro e w8 ⟨oo, mso, rfl, hoo, hmo, hb8⟩; dsimp only [dagV]
                                 have hbk8 : Below w6.heap.size w6 w8 := ((Below.refl _ _).alloc (Nat.le_refl _) _).drew.trans (hb8.mono (by simp))
                                 have hbk9 : ∀ v0 v1 v2, Below w6.heap.size w6 (((w8.setCell ⟨w6.heap.size, 0, none⟩ v0).setCell ⟨w6.heap.size, 1, none⟩ v1).setCell ⟨w6.heap.size, 2, none⟩ v2) := fun v0 v1 v2 => (((hbk8.setCell (p := ⟨w6.heap.size, 0, none⟩) (Nat.le_refl _) v0).setCell (p := ⟨w6.heap.size, 1, none⟩) (Nat.le_refl _) v1).setCell (p := ⟨w6.heap.size, 2, none⟩) (Nat.le_refl _) v2)
                                 have hbx : Box w8 w6.heap.size (dagC 0 0 noAd) := ((box_new w6 (dagC 0 0 noAd) 24).below (Below.refl (w6.heap.size + 1) _).drew (Nat.lt_succ_self _)).below hb8 (by simp)
                                 obtain ⟨b0, b1, b2⟩ := dag_cells hbx
                                 have f0 := (hbx.2 0 _ rfl).2
                                 have f1 := (hbx.2 1 _ rfl).2
                                 have f2 := (hbx.2 2 _ rfl).2))
                          all_goals clear e0 e1 e2 k0 k1 k2 k3 k4 k5
                          all_goals first
                            | (obtain ⟨w10, hw10⟩ : ∃ w10, w10 = w8.alloc (.cells (dagC q.N 0 oo).toArray 24) := ⟨_, rfl⟩
                               have HWT : Hid (w8.alloc (.cells #[.int .i64 q.N, .int .i64 0, .slice oo.A oo.n oo.c] 24) = w10) := hw10.symm
                               rw [HWT.out]
                               have hb810 : Below w8.heap.size w8 w10 := by rw [hw10]; exact (Below.refl _ _).alloc (Nat.le_refl _) _
                               have hbb10 : Below w6.heap.size w6 w10 := hbk8.trans (hb810.mono hbk8.size)
                               have hxb : Box w10 w8.heap.size (dagC q.N 0 oo) := by rw [hw10]; exact box_new _ _ _
                               obtain ⟨x0, x1, x2⟩ := dag_cells hxb
                               have HOO10 : Hid (LefY (gd + 1) w10 oo mso) := ((LefY.of hoo).of_more (by simp; have := HXD.out.1; omega)).below hb810
                               have HNW10 : Hid (∀ z, oo.v.ownBlock = some z → w6.heap.size ≤ z) := fun z hz => by have := (own_lt hoo.row hz).2; simp at this; omega
                               have HMO : Hid (mso.map Prod.fst = addC (msd.map Prod.fst) x) := hmo
                               clear hoo hmo
                               clear hw10 hxb hb810 hb8)
                            | (obtain ⟨w10, hw10⟩ : ∃ w10, w10 = (((w8.setCell ⟨w6.heap.size, 0, none⟩ (.int .i64 q.N)).setCell ⟨w6.heap.size, 1, none⟩ (.int .i64 0)).setCell ⟨w6.heap.size, 2, none⟩ (.slice oo.A oo.n oo.c)) := ⟨_, rfl⟩
                               have HWT : Hid ((((w8.setCell ⟨w6.heap.size, 0, none⟩ (.int .i64 q.N)).setCell ⟨w6.heap.size, 1, none⟩ (.int .i64 0)).setCell ⟨w6.heap.size, 2, none⟩ (.slice oo.A oo.n oo.c)) = w10) := hw10.symm
                               rw [HWT.out]
                               have hbb10 : Below w6.heap.size w6 w10 := by rw [hw10]; exact hbk9 _ _ _
                               have ht8 : Touch (fun k => k = w6.heap.size) w8 w10 := by rw [hw10]; exact Touch.set (F := fun k => k = w6.heap.size) (Touch.set (F := fun k => k = w6.heap.size) (Touch.set (F := fun k => k = w6.heap.size) (Touch.refl _ _) (.inl rfl) _) (.inl rfl) _) (.inl rfl) _
                               have hxb : Box w10 w6.heap.size (dagC q.N 0 oo) := by rw [hw10]; exact ((hbx.set (j := 0) (show 0 < 3 by decide)).set (j := 1) (show 1 < 3 by decide)).set (j := 2) (show 2 < 3 by decide)
                               obtain ⟨x0, x1, x2⟩ := dag_cells hxb
                               have HOO10 : Hid (LefY (gd + 1) w10 oo mso) := (LefY.of (hoo.touch ht8 (fun k hk => by have e : k = w6.heap.size := hk; simp; omega))).of_more (by simp; have := HXD.out.1; omega)
                               have HNW10 : Hid (∀ z, oo.v.ownBlock = some z → w6.heap.size ≤ z) := fun z hz => by have := (own_lt hoo.row hz).2; simp at this; omega
                               have HMO : Hid (mso.map Prod.fst = addC (msd.map Prod.fst) x) := hmo
                               clear hoo hmo
                               clear hw10 hxb hb8 hbk9 hbx b0 b1 b2 f0 f1 f2 ht8)
                          all_goals clear KEEP HAD hbk8
                          all_goals
                            have hb110 : Below w1.heap.size w1 w10 := HBW.out.trans (hbb10.mono HBW.out.size)
                            have hxg : Box w10 gd (dagC q.N 0 od) := HXD.out.below hbb10 HXD.out.1
                            have hoa : LefY (gd + 1) w10 oa msa := HOA.out.below hbb10
                            have hol : LefY (gd + 1) w10 ol msl := HOL.out.below hbb10
                            have hod : LefY (gd + 1) w10 od msd := HOD.out.below hbb10
                            have hgw : gd < w6.heap.size := HXD.out.1
                            have hs10 : w6.heap.size ≤ w10.heap.size := hbb10.size
                            have ht11 : Touch (fun k => k = gd) w10 (((w10.setCell ⟨gd, 0, none⟩ (.int .i64 q.N)).setCell ⟨gd, 1, none⟩ (.int .i64 0)).setCell ⟨gd, 2, none⟩ (.slice oo.A oo.n oo.c)) := Touch.set (F := fun k => k = gd) (Touch.set (F := fun k => k = gd) (Touch.set (F := fun k => k = gd) (Touch.refl _ _) (.inl rfl) _) (.inl rfl) _) (.inl rfl) _
                            have hx11 : Box (((w10.setCell ⟨gd, 0, none⟩ (.int .i64 q.N)).setCell ⟨gd, 1, none⟩ (.int .i64 0)).setCell ⟨gd, 2, none⟩ (.slice oo.A oo.n oo.c)) gd (dagC q.N 0 oo) := ((hxg.set (j := 0) (show 0 < 3 by decide)).set (j := 1) (show 1 < 3 by decide)).set (j := 2) (show 2 < 3 by decide)
                            have hlt : ∀ k, k = gd → k < gd + 1 := fun k hk => by omega
                            have HR : Hid (LefY (gd + 1) (((w10.setCell ⟨gd, 0, none⟩ (.int .i64 q.N)).setCell ⟨gd, 1, none⟩ (.int .i64 0)).setCell ⟨gd, 2, none⟩ (.slice oo.A oo.n oo.c)) oa msa ∧ LefY (gd + 1) (((w10.setCell ⟨gd, 0, none⟩ (.int .i64 q.N)).setCell ⟨gd, 1, none⟩ (.int .i64 0)).setCell ⟨gd, 2, none⟩ (.slice oo.A oo.n oo.c)) ol msl ∧ LefY (gd + 1) (((w10.setCell ⟨gd, 0, none⟩ (.int .i64 q.N)).setCell ⟨gd, 1, none⟩ (.int .i64 0)).setCell ⟨gd, 2, none⟩ (.slice oo.A oo.n oo.c)) oo mso ∧ Box (((w10.setCell ⟨gd, 0, none⟩ (.int .i64 q.N)).setCell ⟨gd, 1, none⟩ (.int .i64 0)).setCell ⟨gd, 2, none⟩ (.slice oo.A oo.n oo.c)) gd (dagC q.N 0 oo) ∧ Below w1.heap.size w1 (((w10.setCell ⟨gd, 0, none⟩ (.int .i64 q.N)).setCell ⟨gd, 1, none⟩ (.int .i64 0)).setCell ⟨gd, 2, none⟩ (.slice oo.A oo.n oo.c))) :=
                              ⟨hoa.touch ht11 hlt, hol.touch ht11 hlt, HOO10.out.touch ht11 hlt, hx11, hb110.trans (ht11.below (fun k hk => by have e : k = gd := hk; have := HGD1.out; omega) (by have := hb110.size; omega))⟩
                            have HNE2 : Hid (∀ z, oa.v.ownBlock = some z → ol.v.ownBlock ≠ some z ∧ oo.v.ownBlock ≠ some z) := fun z hz => ⟨(HNE.out z hz).1, fun e => by have h1 := HNW10.out z e; have h2 := (own_lt HOA.out.row hz).1; omega⟩
                            have HPS2 : Hid (Pas q.N q.l lf (ordF k ol.n) (j + 1) (mso.map Prod.fst) (msa.map Prod.fst)) := by
                              show Pas _ _ _ _ _ _ _
                              rw [HMO.out]
                              exact pas_take HM.out HL30.out (fun y hy => (HLF2.out.lfs y hy).1) HLF2.out.nod HON.out HPS.out (by rw [HLFL.out]; exact hjl) (by rw [← HPE.out]; exact HXL.out) HLK.out
                            obtain ⟨y0, y1, y2⟩ := dag_cells hxg
                            have f0 := (hxg.2 0 _ rfl).2
                            have f1 := (hxg.2 1 _ rfl).2
                            have f2 := (hxg.2 2 _ rfl).2
                            clear ht11 hx11 hlt hxg hoa hol hod hb110
                            go_wp2_with (go_at_call 16; refine (numY_any _ _).mono ?_; rintro e wn ⟨rfl, rfl⟩)
                            rw [← HAL.out]
                            go_roundw
                            case rel => exact ⟨oa, msa, oo, mso, j + 1, rfl, by go_num, by omega, HPS2.out, HR.out.1, HNE2.out, HR.out.2.1, HR.out.2.2.1, HR.out.2.2.2.1, HR.out.2.2.2.2⟩
                            case measure => simp [intOf]; omega
                        · have HLK : Hid (lacksC 0 (msd.map Prod.fst) x ≠ []) := hlk
                          have HAD : Hid (∀ wX, Below w6.heap.size w6 wX → Calls Try.prog 15 #[dagV q.N 0 od, crtV x ax] wX (AddErr 7 wX)) := fun wX hb => add_lack q.N 0 od _ x ax wX (HGD.out.below hb) HMD.out (HCX.out wX hb) HFX.out HNX.out.2.1 HNX.out.2.2.1 HNX.out.2.2.2.1 HLK.out
                          clear hlk
                          unfold dagV crtV at HAD
                          unfold AddErr at HAD
                          have KEEP : Hid (∀ X, Below w6.heap.size w6 X → X.cell? ⟨gd, 0, none⟩ = some (.int .i64 q.N) ∧ X.cell? ⟨gd, 1, none⟩ = some (.int .i64 0) ∧ X.cell? ⟨gd, 2, none⟩ = some (.slice od.A od.n od.c) ∧ X.cell? ⟨b, off + p * 6, none⟩ = some (.int .i64 x.a) ∧ X.cell? ⟨b, off + p * 6 + 1, none⟩ = some (.int .i64 x.r) ∧ X.cell? ⟨b, off + p * 6 + 2, none⟩ = some (.slice ax.B.A ax.B.n ax.B.c) ∧ X.cell? ⟨b, off + p * 6 + 3, none⟩ = some (.slice ax.P.A ax.P.n ax.P.c) ∧ X.cell? ⟨b, off + p * 6 + 4, none⟩ = some (.int .i64 x.d) ∧ X.cell? ⟨b, off + p * 6 + 5, none⟩ = some (.slice ax.S.A ax.S.n ax.S.c)) := fun X hb => by
                            obtain ⟨m0, m1, m2⟩ := HOO.out X hb
                            obtain ⟨c0, c1, c2, c3, c4, c5⟩ := HC.out X hb
                            exact ⟨m0, m1, m2, c0, c1, c2, c3, c4, c5⟩
                          go_upto_region 20 with fail
                          obtain ⟨e0, e1, e2, k0, k1, k2, k3, k4, k5⟩ := KEEP.out w6 (Below.refl _ _)
                          go_region_held3 (fun X => X.cell? ⟨gd, 0, none⟩ = some (.int .i64 q.N) ∧ X.cell? ⟨gd, 1, none⟩ = some (.int .i64 0) ∧ X.cell? ⟨gd, 2, none⟩ = some (.slice od.A od.n od.c) ∧ X.cell? ⟨b, off + p * 6, none⟩ = some (.int .i64 x.a) ∧ X.cell? ⟨b, off + p * 6 + 1, none⟩ = some (.int .i64 x.r) ∧ X.cell? ⟨b, off + p * 6 + 2, none⟩ = some (.slice ax.B.A ax.B.n ax.B.c) ∧ X.cell? ⟨b, off + p * 6 + 3, none⟩ = some (.slice ax.P.A ax.P.n ax.P.c) ∧ X.cell? ⟨b, off + p * 6 + 4, none⟩ = some (.int .i64 x.d) ∧ X.cell? ⟨b, off + p * 6 + 5, none⟩ = some (.slice ax.S.A ax.S.n ax.S.c))
                            ((refine KEEP.out _ ?_; first
                              | with_reducible exact (Below.refl _ _)
                              | with_reducible exact (Below.refl _ _).drew
                              | with_reducible exact ((Below.refl _ _).alloc (Nat.le_refl _) _)
                              | with_reducible exact ((Below.refl _ _).alloc (Nat.le_refl _) _).drew
                              | with_reducible exact hbk8
                              | with_reducible exact (hbk8.alloc hbk8.size _)
                              | exact hbk9 _ _ _))
                            (first
                              | (go_at_call 15; refine (HAD.out _ ?_).mono ?_
                                 · exact (Below.refl _ _).drew
                                 rintro e w8 ⟨rfl, hb8⟩; dsimp only [dagV, noAd]
                                 have hbk8 : Below w6.heap.size w6 w8 := (Below.refl _ _).drew.trans (hb8.mono (by simp)))
                              | (go_at_call 15; refine (HAD.out _ ?_).mono ?_
                                 · exact ((Below.refl _ _).alloc (Nat.le_refl _) _).drew
                                 rintro e w8 ⟨rfl, hb8⟩; dsimp only [dagV, noAd]
                                 have hbk8 : Below w6.heap.size w6 w8 := ((Below.refl _ _).alloc (Nat.le_refl _) _).drew.trans (hb8.mono (by simp))
                                 have hbk9 : ∀ v0 v1 v2, Below w6.heap.size w6 (((w8.setCell ⟨w6.heap.size, 0, none⟩ v0).setCell ⟨w6.heap.size, 1, none⟩ v1).setCell ⟨w6.heap.size, 2, none⟩ v2) := fun v0 v1 v2 => (((hbk8.setCell (p := ⟨w6.heap.size, 0, none⟩) (Nat.le_refl _) v0).setCell (p := ⟨w6.heap.size, 1, none⟩) (Nat.le_refl _) v1).setCell (p := ⟨w6.heap.size, 2, none⟩) (Nat.le_refl _) v2)
                                 have hbx : Box w8 w6.heap.size (dagC 0 0 noAd) := ((box_new w6 (dagC 0 0 noAd) 24).below (Below.refl (w6.heap.size + 1) _).drew (Nat.lt_succ_self _)).below hb8 (by simp)
                                 obtain ⟨b0, b1, b2⟩ := dag_cells hbx
                                 have f0 := (hbx.2 0 _ rfl).2
                                 have f1 := (hbx.2 1 _ rfl).2
                                 have f2 := (hbx.2 2 _ rfl).2))
                          all_goals clear e0 e1 e2 k0 k1 k2 k3 k4 k5
                          all_goals first
                            | (obtain ⟨w10, hw10⟩ : ∃ w10, w10 = w8.alloc (.cells (dagC 0 0 noAd).toArray 24) := ⟨_, rfl⟩
                               have HWT : Hid (w8.alloc (.cells #[.int .i64 0, .int .i64 0, .slice none 0 0] 24) = w10) := hw10.symm
                               rw [HWT.out]
                               have hb810 : Below w8.heap.size w8 w10 := by rw [hw10]; exact (Below.refl _ _).alloc (Nat.le_refl _) _
                               have hbb10 : Below w6.heap.size w6 w10 := hbk8.trans (hb810.mono hbk8.size)
                               have hxb : Box w10 w8.heap.size (dagC 0 0 noAd) := by rw [hw10]; exact box_new _ _ _
                               obtain ⟨x0, x1, x2⟩ := dag_cells hxb
                               clear hw10 hxb hb810 hb8)
                            | (obtain ⟨w10, hw10⟩ : ∃ w10, w10 = (((w8.setCell ⟨w6.heap.size, 0, none⟩ (.int .i64 0)).setCell ⟨w6.heap.size, 1, none⟩ (.int .i64 0)).setCell ⟨w6.heap.size, 2, none⟩ (.slice none 0 0)) := ⟨_, rfl⟩
                               have HWT : Hid ((((w8.setCell ⟨w6.heap.size, 0, none⟩ (.int .i64 0)).setCell ⟨w6.heap.size, 1, none⟩ (.int .i64 0)).setCell ⟨w6.heap.size, 2, none⟩ (.slice none 0 0)) = w10) := hw10.symm
                               rw [HWT.out]
                               have hbb10 : Below w6.heap.size w6 w10 := by rw [hw10]; exact hbk9 _ _ _
                               have ht8 : Touch (fun k => k = w6.heap.size) w8 w10 := by rw [hw10]; exact Touch.set (F := fun k => k = w6.heap.size) (Touch.set (F := fun k => k = w6.heap.size) (Touch.set (F := fun k => k = w6.heap.size) (Touch.refl _ _) (.inl rfl) _) (.inl rfl) _) (.inl rfl) _
                               have hxb : Box w10 w6.heap.size (dagC 0 0 noAd) := by rw [hw10]; exact ((hbx.set (j := 0) (show 0 < 3 by decide)).set (j := 1) (show 1 < 3 by decide)).set (j := 2) (show 2 < 3 by decide)
                               obtain ⟨x0, x1, x2⟩ := dag_cells hxb
                               clear hw10 hxb hb8 hbk9 hbx b0 b1 b2 f0 f1 f2 ht8)
                          all_goals clear KEEP HAD hbk8
                          all_goals
                            have hb110 : Below w1.heap.size w1 w10 := HBW.out.trans (hbb10.mono HBW.out.size)
                            have hxg : Box w10 gd (dagC q.N 0 od) := HXD.out.below hbb10 HXD.out.1
                            have hoa : LefY (gd + 1) w10 oa msa := HOA.out.below hbb10
                            have hol : LefY (gd + 1) w10 ol msl := HOL.out.below hbb10
                            have hod : LefY (gd + 1) w10 od msd := HOD.out.below hbb10
                            have hgw : gd < w6.heap.size := HXD.out.1
                            have hs10 : w6.heap.size ≤ w10.heap.size := hbb10.size
                            have hon : oa.n ≤ 30 := by have h1 := HPS.out.len; rw [List.length_map, HOA.out.len] at h1; omega
                            obtain ⟨i0', hi0, hz0, hz1, hz2⟩ := info_parts info_zcert
                            have HI0 := Lib.hid hi0
                            have HZ0 := Lib.hid hz0
                            have HZ1 := Lib.hid hz1
                            have HZ2 := Lib.hid hz2
                            have HXG := Lib.hid hxg
                            have HOA10 := Lib.hid hoa
                            have HOL10 := Lib.hid hol
                            have HOD10 := Lib.hid hod
                            have HB110 := Lib.hid hb110
                            obtain ⟨k0, k1, k2, k3, k4, k5⟩ := HC.out w10 hbb10
                            clear hi0 hz0 hz1 hz2 hxg hoa hol hod hb110 x0 x1 x2
                            go_wp2_with (first
                              | (at_builtin; refine wpList_append_lies _ rfl _ _ 22 rfl (gd + 1) 37 i0' zcert 6 96 Try.underlying22 HI0.out HZ0.out HZ1.out HZ2.out rfl (by decide) (.slice oa.A oa.n oa.c) oa.n (cellsY msa) rfl (ownS_below HOA10.out.row ((Below.refl _ _).alloc (Nat.le_refl _) _)) ⟨w10.heap.size, 0, none⟩ 1 1 (crtC x ax) rfl rfl (fun j y hj => by rw [Addr.add_lit, Nat.zero_add]; exact ((box_new w10 (crtC x ax) 37).2 j y hj).1) (fun u hu => List.all_eq_true.1 (show (crtC x ax).all (·.oneCell') = true from rfl) u hu) (by decide) (by unfold maxLen; omega) (by omega) (by simp; omega) _ rfl ?_
                                 intro g' c' w7 q1 q2 q3 q4)
                              | (go_at_call 16; refine (numY_any _ _).mono ?_; rintro e wn ⟨rfl, rfl⟩))
                            have hT7 : Touch (fun k => oa.v.ownBlock = some k) w10 w7 := ((Touch.refl (fun k => oa.v.ownBlock = some k) w10).alloc _).on (Touch.grown q2 fun k hk => hk)
                            have hb7 : Below (gd + 1) w10 w7 := hT7.below (fun j hj => (own_lt HOA10.out.row hj).2) (by omega)
                            have HR : Hid (LefY (gd + 1) w7 ⟨some ⟨g', 0, none⟩, oa.n + 1, c'⟩ (msa ++ [(x, ax)]) ∧ LefY (gd + 1) w7 ol msl ∧ LefY (gd + 1) w7 od msd ∧ Box w7 gd (dagC q.N 0 od) ∧ Below w1.heap.size w1 w7) :=
                              ⟨HOA10.out.push HOL10.out HMX.out hT7 q1 rfl, HOL10.out.far HOA10.out (fun z hz => (HNE.out z hz).1) hT7, HOD10.out.far HOA10.out (fun z hz => (HNE.out z hz).2) hT7, HXG.out.touch hT7 (fun e => by have := (own_lt HOA10.out.row e).2; omega), HB110.out.trans (hb7.mono (by have := HGD1.out; omega))⟩
                            have HNE2 : Hid (∀ z, (Ad.v ⟨some ⟨g', 0, none⟩, oa.n + 1, c'⟩).ownBlock = some z → ol.v.ownBlock ≠ some z ∧ od.v.ownBlock ≠ some z) := fun z hz => by
                              have e : g' = z := by simpa [Ad.v, Value.ownBlock] using hz
                              subst e
                              rcases q3 with h1 | h1
                              · exact HNE.out _ h1
                              · exact ⟨fun e => by have h2 := (own_lt HOL10.out.row e).1; simp at h1; omega, fun e => by have h2 := (own_lt HOD10.out.row e).1; simp at h1; omega⟩
                            have HPS2 : Hid (Pas q.N q.l lf (ordF k ol.n) (j + 1) (msd.map Prod.fst) ((msa ++ [(x, ax)]).map Prod.fst)) := by
                              show Pas _ _ _ _ _ _ _
                              rw [List.map_append]
                              exact pas_lack HM.out (fun y hy => (HLF2.out.lfs y hy).1) HLF2.out.nod HON.out HPS.out (by rw [HLFL.out]; exact hjl) (by rw [← HPE.out]; exact HXL.out) HLK.out
                            clear hT7 hb7 q1 q2 q3 q4
                            go_wp2_with fail
                            rw [← HAL.out]
                            go_roundw
                            case rel => exact ⟨⟨some ⟨g', 0, none⟩, oa.n + 1, c'⟩, msa ++ [(x, ax)], od, msd, j + 1, by go_num, by go_num, by omega, HPS2.out, HR.out.1, HNE2.out, HR.out.2.1, HR.out.2.2.1, HR.out.2.2.2.1, HR.out.2.2.2.2⟩
                            case measure => simp [intOf]; omega
                    · have i1 : ¬ ((j : Int) < (ol.n : Int)) := by omega
                      obtain rfl : j = ol.n := by omega
                      have HEND := Lib.hid (pas_end HON.out (fun y hy => (HLF2.out.lfs y hy).1) (by rw [HLFL.out]; exact HPS.out) (by rw [HLFL.out]; exact hpos))
                      have hal : oa.n < ol.n := by
                        have := HEND.out.2
                        rw [List.length_map, HOA.out.len, HLFL.out] at this
                        exact this
                      have i2 : ¬ ((oa.n : Int) = (ol.n : Int)) := by omega
                      clear hjl
                      go_wp2_with fail
                      go_roundw
                      case rel => exact ⟨oa, msa, od, msd, rfl, HEND.out.1, HOA.out, HOD.out, HXD.out, HBW.out⟩
                      case measure => simp [lenV]; omega
                · have i0 : ¬ ((0 : Int) < (ol.n : Int)) := by omega
                  have hms : msl = [] := List.eq_nil_of_length_eq_zero (by rw [HOL.out.len]; omega)
                  have HLE : Hid (msd.map Prod.fst = q.l) := by
                    have := HLF.out
                    rw [hms] at this
                    exact lft_end HM.out this
                  have HGD : Hid (GIn wr od (msd.map Prod.fst)) := HOD.out.gin (fun x hx => HFT.out x.1 (by rw [← HLE.out]; exact List.mem_map_of_mem hx)) (by have := congrArg List.length HLE.out; rw [List.length_map] at this; have := HL30.out; omega)
                  have HEQ : Hid (Calls Try.prog 17 #[.agg #[.int .i64 q.N, .int .i64 0, .slice od.A od.n od.c], .agg #[.int .i64 q.N, .int .i64 0, .slice q.o.A q.o.n q.o.c]] wr (Tells wr.heap.size wr (.bool true))) := by
                    have := eqDag_is q.N 0 od (msd.map Prod.fst) q.N 0 q.o q.l wr HGD.out (HGI.out wr HBW.out)
                    rwa [decide_eq_true (And.intro rfl (And.intro rfl HLE.out))] at this
                  obtain ⟨e0, e1, e2, e3, e4, e5⟩ := HD.out wr HBW.out
                  obtain ⟨d0, d1, d2⟩ := dag_cells HXD.out
                  rw [HLZ.out] at e1
                  clear hpos hms
                  go_wp2_with (go_at_call 17; refine HEQ.out.mono ?_; rintro e w7 ⟨rfl, hb7⟩)
                  have HB7 : Hid (Below w1.heap.size w1 w7) := HBW.out.trans (hb7.mono HBW.out.size)
                  go_roundw
                  case rel => exact ⟨k + 1, by go_num, by omega, HB7.out⟩
                  case measure => simp [intOf]; omega
            · obtain rfl : k = 2 := by omega
              have j0 : ¬ (((2 : Nat) : Int) < 2) := by omega
              have hbr := HB.out.trans (HBK.out.mono (Nat.le_of_lt hgs))
              have hsr := HBK.out.size
              clear hk2
              go_wp2_with (go_at_call 20; refine (wakesY_any _).mono ?_; rintro e w5 ⟨rfl, hb5⟩)
              go_ret
              exact ⟨rfl, hbr.trans (hb5.mono (by omega))⟩
        · have jl : (q.L != 0) = true := by simp [hL]
          clear hm hL
          go_wp2_with (first
            | (go_at_call 21; refine HCK.out.mono ?_; rintro e w3 ⟨rfl, hb3⟩; have HBE := hb2.trans (hb3.mono hb2.size); obtain ⟨t0, t1, t2, t3, t4, t5⟩ := HD.out w3 HBE)
            | (go_at_call 16; refine (numY_any _ _).mono ?_; rintro e wn ⟨rfl, rfl⟩))
          go_ret
          exact ⟨rfl, HB.out.trans (HBE.mono (Nat.le_of_lt hgs))⟩
      · have HCK := Lib.hid (check_bad (HGI.out w2 hb2) hm)
        unfold dagV at HCK
        clear hm
        go_wp2_with (first
          | (go_at_call 21; refine HCK.out.mono ?_; rintro e w3 ⟨rfl, hb3⟩; have HBE := hb2.trans (hb3.mono hb2.size); obtain ⟨t0, t1, t2, t3, t4, t5⟩ := HD.out w3 HBE)
          | (go_at_call 16; refine (numY_any _ _).mono ?_; rintro e wn ⟨rfl, rfl⟩))
        go_ret
        exact ⟨rfl, HB.out.trans (HBE.mono (Nat.le_of_lt hgs))⟩
  · go_wp2_with fail
    go_ret
    exact ⟨rfl, HB.out.trans (hb2.mono (Nat.le_of_lt hgs))⟩
  · go_wp2_with fail
    go_ret
    exact ⟨rfl, HB.out.trans (hb2.mono (Nat.le_of_lt hgs))⟩

end Go.Proofs.Ytejkeccoialogaa
