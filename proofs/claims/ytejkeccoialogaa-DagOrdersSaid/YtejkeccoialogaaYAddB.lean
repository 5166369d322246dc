/-
  Package dag's Add: what is done.
-/
import Derived.Test.YtejkeccoialogaaYAddA
import Derived.Test.YtejkeccoialogaaYInsAC
import Derived.Deep.RegionWith
namespace Go.Proofs.Ytejkeccoialogaa
open Go.RowKit

def insY (ms : List (CrtD × CrtA)) (i : Nat) (y : CrtD × CrtA) : List (CrtD × CrtA) := ms.take i ++ y :: ms.drop i
theorem cellsY_ins (ms : List (CrtD × CrtA)) (i : Nat) (y : CrtD × CrtA) : cellsY (insY ms i y) = putInC (cellsY ms) (crtC y.1 y.2) i := by
  rw [insY, cellsY_append, putInC, cellsY_take, cellsY_drop, List.append_assoc]
  rfl
theorem mem_insY {ms : List (CrtD × CrtA)} {i : Nat} {y z : CrtD × CrtA} (h : z ∈ insY ms i y) : z = y ∨ z ∈ ms := by
  rw [insY, List.mem_append, List.mem_cons] at h
  rcases h with h | h | h
  · exact .inr (List.mem_of_mem_take h)
  · exact .inl h
  · exact .inr (List.mem_of_mem_drop h)
theorem map_insY (ms : List (CrtD × CrtA)) (i : Nat) (y : CrtD × CrtA) : (insY ms i y).map Prod.fst = (ms.map Prod.fst).take i ++ y.1 :: (ms.map Prod.fst).drop i := by
  simp [insY, List.map_take, List.map_drop]
theorem insY_length (ms : List (CrtD × CrtA)) (i : Nat) (y : CrtD × CrtA) (hi : i ≤ ms.length) : (insY ms i y).length = ms.length + 1 := by
  simp [insY]; omega
theorem OwnY.ins {B : Nat} {w w1 w2 : World} {o o' : Ad} {ms : List (CrtD × CrtA)} {x : CrtD} {a : CrtA} {i : Nat} (h : OwnY B w o ms) (hb : Below w.heap.size w w1) (ho : CNew w.heap.size w1 x a) (hB : B ≤ w.heap.size)
    (ht : Touch (fun k => o.v.ownBlock = some k) w1 w2) (hr : w2.ownsRow B 37 6 o'.v o'.n (putInC (cellsY ms) (crtC x a) i)) (hn : o'.n = o.n + 1) (hi : i ≤ ms.length) : OwnY B w2 o' (insY ms i (x, a)) := by
  have hnew : CNew w.heap.size w2 x a := ho.touch ht fun b hf hh => by
    have := (ho.lt hh).2
    have := (own_lt h.row hf).1
    omega
  have hfar : ∀ z ∈ ms, ∀ k, z.2.has k → ¬ a.has k := fun z hz k h1 h2 => by
    have := ((h.sub z hz).lt h1).1
    have := (ho.lt h2).2
    omega
  refine ⟨by rw [cellsY_ins]; exact hr, by rw [insY_length _ _ _ hi, hn, h.len], fun z hz => ?_, ?_⟩
  · rcases mem_insY hz with rfl | hz
    · exact hnew.more hB
    · exact ((h.sub z hz).below hb).touch ht fun b hf hh => h.apart hz hf hh
  · rw [insY, List.pairwise_append]
    refine ⟨h.nod.sublist (List.take_sublist _ _), ?_, fun z hz y hy k h1 h2 => ?_⟩
    · rw [List.pairwise_cons]
      exact ⟨fun z hz k h1 h2 => hfar z (List.mem_of_mem_drop hz) k h2 h1, h.nod.sublist (List.drop_sublist _ _)⟩
    · rcases List.mem_cons.1 hy with rfl | hy
      · exact hfar z (List.mem_of_mem_take hz) k h1 h2
      · have hsp := h.nod
        rw [← List.take_append_drop i ms, List.pairwise_append] at hsp
        exact hsp.2.2 z hz y hy k h1 h2
theorem OwnY.touch {B : Nat} {w w' : World} {o : Ad} {ms : List (CrtD × CrtA)} {F : Nat → Prop} (h : OwnY B w o ms) (ht : Touch F w w') (hF : ∀ k, F k → k < B) : OwnY B w' o ms :=
  ⟨own_touch h.row ht hF, h.len, fun x hx => (h.sub x hx).touch ht fun k hk hh => by have := ((h.sub x hx).lt hh).2; have := hF k hk; omega, h.nod⟩
/-- a graph with one more -/
def AddOk (N L : Int) (l : List CrtD) (w : World) (en : Ending) (w' : World) : Prop := ∃ o' ms', en = .returned (.tuple #[dagV N L o', .int .i64 0]) ∧ OwnY w.heap.size w' o' ms' ∧ ms'.map Prod.fst = l ∧ Below w.heap.size w w'

set_option maxRecDepth 100000 in
set_option maxHeartbeats 16000000 in
theorem add_ok (N L : Int) (o : Ad) (l : List CrtD) (x : CrtD) (a : CrtA) (w : World) (h : GIn w o l) (hm : MayG N L l) (hi : CIn w x a) (hf : CrtFit x) (hz : chkC N L x = 0) (hh : hasAt l x.r x.a = false) (hdg : hasDg l x.d = false) (hlk : lacksC L l x = []) :
    Calls Try.prog 15 #[dagV N L o, crtV x a] w (AddOk N L (addC l x) w) := by
  obtain ⟨g, hg⟩ : ∃ g, g = w.heap.size := ⟨_, rfl⟩
  obtain ⟨w1, hw1⟩ : ∃ w1, w1 = (((w.alloc (.cells (dagC N L o).toArray 24)).alloc (.cells (crtC x a).toArray 37)).alloc (.cells (dagC 0 0 noAd).toArray 24)) := ⟨_, rfl⟩
  obtain ⟨hb1, hsz, hx0, hx1, hx2⟩ := boxes3 w _ _ _ _ _ _ hw1
  rw [← hg] at hb1 hsz hx0 hx1 hx2
  have HG : Hid (w.heap.size = g) := hg.symm
  have HW : Hid ((((w.alloc (.cells #[.int .i64 N, .int .i64 L, .slice o.A o.n o.c] 24)).alloc (.cells #[.int .i64 x.a, .int .i64 x.r, .slice a.B.A a.B.n a.B.c, .slice a.P.A a.P.n a.P.c, .int .i64 x.d, .slice a.S.A a.S.n a.S.c] 37)).alloc (.cells #[.int .i64 0, .int .i64 0, .slice none 0 0] 24)) = w1) := hw1.symm
  have HIN : Hid (∀ wX, Below g w wX → GIn wX o l) := fun wX hb => h.below (by rw [← hg]; exact hb)
  have HB := Lib.hid hb1
  have HSZ := Lib.hid hsz
  have HX0 := Lib.hid hx0
  have HX1 := Lib.hid hx1
  have HX2 := Lib.hid hx2
  have HD : Hid (∀ wX, Below w1.heap.size w1 wX → (wX.cell? ⟨g, 0, none⟩ = some (.int .i64 N) ∧ wX.cell? ⟨g, 1, none⟩ = some (.int .i64 L) ∧ wX.cell? ⟨g, 2, none⟩ = some (.slice o.A o.n o.c)) ∧ (wX.cell? ⟨g + 1, 0, none⟩ = some (.int .i64 x.a) ∧ wX.cell? ⟨g + 1, 1, none⟩ = some (.int .i64 x.r) ∧ wX.cell? ⟨g + 1, 2, none⟩ = some (.slice a.B.A a.B.n a.B.c) ∧ wX.cell? ⟨g + 1, 3, none⟩ = some (.slice a.P.A a.P.n a.P.c) ∧ wX.cell? ⟨g + 1, 4, none⟩ = some (.int .i64 x.d) ∧ wX.cell? ⟨g + 1, 5, none⟩ = some (.slice a.S.A a.S.n a.S.c))) := fun wX hb => ⟨dag_cells (HX0.out.below hb HX0.out.1), crt_cells (HX1.out.below hb HX1.out.1)⟩
  have HC := Lib.hid (check_ok (HIN.out _ hb1) hm)
  have HCI : Hid (∀ wX, Below g w wX → CIn wX x a) := fun wX hb => hi.below (by rw [HG.out]; exact hb)
  have HK : Hid (∀ w2, Below g w w2 → Calls Try.prog 50 #[dagV N L o, crtV x a] w2 fun e w' => e = .returned (.int .i64 (0)) ∧ Below w2.heap.size w2 w') := fun w2 hb2 => by
    have := checkCert_is N L o x a w2 (HCI.out _ hb2) hf
    rwa [hz] at this
  have hpl := (CrtD.pl_of (chk_ok hz).1).1
  have HPL := Lib.hid hpl
  have HFP : Hid (∀ wX, Below g w wX → Calls Try.prog 51 #[dagV N L o, .complex .f64 (Pl.Fl.F x.r) (Pl.Fl.F x.a)] wX fun e w' => e = .returned (.tuple #[.int .i64 (posC l x.r x.a), .bool (hasAt l x.r x.a)]) ∧ Below wX.heap.size wX w') := fun wX hb => by
    obtain ⟨ms, h1, h2⟩ := HIN.out wX hb
    exact findPlaceC_is N L o ms l x wX h1 h2 hm.asc (fun y hy => (CrtD.pl_of (hm.of_mem hy).1).1) hpl
  have hpn : posC l x.r x.a ≤ o.n := by rw [← h.len]; exact cutF_le l
  rw [hh] at HFP
  have HDG : Hid (∀ wX, Below g w wX → Calls Try.prog 53 #[.slice o.A o.n o.c, .int .i64 x.d] wX fun e w' => e = .returned (.bool false) ∧ Below wX.heap.size wX w') := fun wX hb => by
    have := hasDigest_is x.d o l wX (HIN.out wX hb)
    rwa [hdg] at this
  have HM : Hid (∀ w2, Below g w w2 → _) := fun w2 hb2 => missing_is N L o l x a w2 (HIN.out _ hb2) hm.asc (HCI.out _ hb2) hf ⟨hm.l0, hm.l1⟩ hpl.1
  unfold dagV crtV at HM
  rw [hlk] at HM
  have HFIT := Lib.hid hf
  have hfew := h.few
  have hlen := h.len
  obtain ⟨p, hpp⟩ : ∃ p, p = posC l x.r x.a := ⟨_, rfl⟩
  rw [← hpp] at HFP hpn
  have HPP := Lib.hid hpp
  clear hg hw1 hb1 hsz hx1 hx2 h hm hi hf hz hpp hpl hh hdg hlk
  unfold dagV at HC
  unfold dagV crtV at HK ⊢
  unfold dagV at HFP
  have hgs := HX0.out.1
  have hz1 := HSZ.out
  obtain ⟨d10, d11, d12⟩ := dag_cells hx0
  go_enter Try.func15, Try.ntmps15
  go_upto_region 1 with fail
  rw [HG.out, HW.out]
  go_upto_region 4 with (go_at_call 21; refine HC.out.mono ?_; rintro e w2 ⟨rfl, hb12⟩)
  obtain ⟨⟨d20, d21, d22⟩, c20, c21, c22, c23, c24, c25⟩ := HD.out w2 hb12
  have hbb2 := HB.out.trans (hb12.mono (Nat.le_of_lt hgs))
  clear d10 d11 d12
  go_upto_region 7 with (go_at_call 50; refine (HK.out _ hbb2).mono ?_; rintro e w3 ⟨rfl, hb3⟩)
  have hb13 := hb12.trans (hb3.mono hb12.size)
  clear d20 d21 d22 c20 c21 c22 c23 c24 c25
  clear hb3
  have q0 : ∀ z : Calm w3, z.val.cell? ⟨g + 1, 0, none⟩ = some (.int .i64 x.a) := fun z => (HD.out z.val (hb13.trans (z.ok.mono hb13.size))).2.1
  have q1 : ∀ z : Calm w3, z.val.cell? ⟨g + 1, 1, none⟩ = some (.int .i64 x.r) := fun z => (HD.out z.val (hb13.trans (z.ok.mono hb13.size))).2.2.1
  have q2 : ∀ z : Calm w3, z.val.cell? ⟨g + 1, 2, none⟩ = some (.slice a.B.A a.B.n a.B.c) := fun z => (HD.out z.val (hb13.trans (z.ok.mono hb13.size))).2.2.2.1
  have q3 : ∀ z : Calm w3, z.val.cell? ⟨g + 1, 3, none⟩ = some (.slice a.P.A a.P.n a.P.c) := fun z => (HD.out z.val (hb13.trans (z.ok.mono hb13.size))).2.2.2.2.1
  have q4 : ∀ z : Calm w3, z.val.cell? ⟨g + 1, 4, none⟩ = some (.int .i64 x.d) := fun z => (HD.out z.val (hb13.trans (z.ok.mono hb13.size))).2.2.2.2.2.1
  have q5 : ∀ z : Calm w3, z.val.cell? ⟨g + 1, 5, none⟩ = some (.slice a.S.A a.S.n a.S.c) := fun z => (HD.out z.val (hb13.trans (z.ok.mono hb13.size))).2.2.2.2.2.2
  have p0 : ∀ z : Calm w3, z.val.cell? ⟨g, 0, none⟩ = some (.int .i64 N) := fun z => (HD.out z.val (hb13.trans (z.ok.mono hb13.size))).1.1
  have p1 : ∀ z : Calm w3, z.val.cell? ⟨g, 1, none⟩ = some (.int .i64 L) := fun z => (HD.out z.val (hb13.trans (z.ok.mono hb13.size))).1.2.1
  have p2 : ∀ z : Calm w3, z.val.cell? ⟨g, 2, none⟩ = some (.slice o.A o.n o.c) := fun z => (HD.out z.val (hb13.trans (z.ok.mono hb13.size))).1.2.2
  refine wp_region_calm (by kernel_rfl) (by kernel_rfl) ?_
  repeat (go_big_quiet_step (first
    | (go_at_call 52; exact calm_tells (placeOf_is x a HPL.out _))
    | (go_at_call 51; exact calm_tells (HFP.out _ (HB.out.trans ((hb13.trans ((Calm.ok _).mono hb13.size)).mono (Nat.le_of_lt hgs)))))))
  refine wpQuiet_nil ?_
  rintro _ ⟨z, rfl⟩
  obtain ⟨w4, hw4⟩ : ∃ w4, w4 = z.val := ⟨_, rfl⟩
  have hb14 : Below w1.heap.size w1 w4 := by rw [hw4]; exact hb13.trans (z.ok.mono hb13.size)
  rw [← hw4]
  clear hw4 z q0 q1 q2 q3 q4 q5 p0 p1 p2
  go_upto_region 8 with fail
  have p2 : ∀ z : Calm w4, z.val.cell? ⟨g, 2, none⟩ = some (.slice o.A o.n o.c) := fun z => (HD.out z.val (hb14.trans (z.ok.mono hb14.size))).1.2.2
  have q4 : ∀ z : Calm w4, z.val.cell? ⟨g + 1, 4, none⟩ = some (.int .i64 x.d) := fun z => (HD.out z.val (hb14.trans (z.ok.mono hb14.size))).2.2.2.2.2.1
  refine wp_region_calm (by kernel_rfl) (by kernel_rfl) ?_
  repeat (go_big_quiet_step (fail))
  refine wpQuiet_nil ?_
  rintro _ ⟨z, rfl⟩
  obtain ⟨w5, hw5⟩ : ∃ w5, w5 = z.val := ⟨_, rfl⟩
  have hb15 : Below w1.heap.size w1 w5 := by rw [hw5]; exact hb14.trans (z.ok.mono hb14.size)
  rw [← hw5]
  clear hw5 z p2 q4
  obtain ⟨⟨d50, d51, d52⟩, c50, c51, c52, c53, c54, c55⟩ := HD.out w5 hb15
  have hbb5 := HB.out.trans (hb15.mono (Nat.le_of_lt hgs))
  go_upto_region 12 with (go_at_call 53; refine (HDG.out _ hbb5).mono ?_; rintro e w6 ⟨rfl, hb6⟩)
  have hb16 := hb15.trans (hb6.mono hb15.size)
  clear d50 d51 d52 c50 c51 c52 c53 c54 c55
  obtain ⟨⟨d60, d61, d62⟩, c60, c61, c62, c63, c64, c65⟩ := HD.out w6 hb16
  have hbb6 := HB.out.trans (hb16.mono (Nat.le_of_lt hgs))
  go_upto_region 14 with (go_at_call 54; refine (HM.out _ hbb6).mono ?_; rintro e w7 ⟨⟨A7, n7, q7⟩, rfl, ho7, hl7, hb7⟩; obtain rfl : n7 = 0 := hl7.symm)
  have hb17 := hb16.trans (hb7.mono hb16.size)
  clear d60 d61 d62 c60 c61 c62 c63 c64 c65
  obtain ⟨⟨d70, d71, d72⟩, c70, c71, c72, c73, c74, c75⟩ := HD.out w7 hb17
  have hbb7 := HB.out.trans (hb17.mono (Nat.le_of_lt hgs))
  have hs7 : w1.heap.size ≤ w7.heap.size := hb17.size
  have HGI : Hid (GIn w7.drew o l) := (HIN.out _ hbb7).drew
  have hcx : Box w7 g (dagC N L o) := HX0.out.below hb17 HX0.out.1
  have hcy : Box w7 (g + 1) (crtC x a) := HX1.out.below hb17 HX1.out.1
  have hcz : Box w7 (g + 2) (dagC 0 0 noAd) := HX2.out.below hb17 HX2.out.1
  have HCX := Lib.hid hcx
  have HCY := Lib.hid hcy
  have HCZ := Lib.hid hcz
  have hgw : g < w7.heap.size := hcx.1
  have HCL : Hid (∀ w8, Below w7.heap.size w7 w8 → CIn w8 x a) := fun w8 hb8 => HCI.out _ (hbb7.trans (hb8.mono (Nat.le_of_lt hgw)))
  have hgw1 : g + 1 < w7.heap.size := hcy.1
  have f72 : w7.frozen? ⟨g, 2, none⟩ = false := (hcx.2 2 _ rfl).2
  clear hcx hcy hcz HC HK HFP HDG HM hb12 hb13 hb14 hb15 hb6 hb16 hbb2 hbb5 hbb6 hb7 ho7 hl7
  go_region_with (first
    | (go_at_call 56; refine (clones_is o l _ HGI.out).mono ?_; rintro e w8 ⟨⟨A8, n8, q8⟩, ms8, rfl, ho8, hl8, hb8a⟩
       have hb8 : Below w7.heap.size w7 w8 := ((Below.refl _ _).drew).trans hb8a
       have ho8' : OwnY w7.heap.size w8 ⟨A8, n8, q8⟩ ms8 := ho8
       have hsz8 := hb8.size
       obtain ⟨e0, e1, e2, e3, e4, e5⟩ := crt_cells (HCY.out.below hb8 hgw1))
    | (go_at_call 57; refine (clone_is x a w8 (HCL.out _ hb8) HFIT.out).mono ?_; rintro e w9 ⟨a9, rfl, hn9, hb9⟩
       dsimp only [crtV]
       have hsz9 := hb9.size)
    | (go_at_call 55
       have hlen8 : ms8.length = n8 := ho8'.len
       have hlen8b : n8 = o.n := by rw [← hlen8, ← hlen, ← hl8, List.length_map]
       refine (insert_anyC w7.heap.size w9.heap.size n8 p (.slice A8 n8 q8) (cellsY ms8) (crtC x a9) _ (ownS_below (ownS_below ho8'.row hb9) ((Below.refl _ _).alloc (Nat.le_refl _) _)) (by simp; omega) (by omega) (by omega) (cellsY_oneCell ms8) rfl (heap_alloc_new _ _) (fun u hu => List.all_eq_true.1 (show (crtC x a9).all (·.oneCell') = true from rfl) u hu) (fun hq => by have := (own_lt ho8'.row hq).1; omega)).mono ?_
       rintro e w10 ⟨v10, rfl, hown, hgr, -⟩
       obtain ⟨A10, c10, rfl, _⟩ := ownS_slice hown
       have hblk : ∀ k, (Value.slice A8 n8 q8).ownBlock = some k → w7.heap.size ≤ k := fun k hk => (own_lt ho8'.row hk).2
       have T10 : Touch (fun k => w7.heap.size ≤ k) w9 w10 := ((Touch.refl _ w9).alloc _).on (Touch.grown hgr fun k hk => hblk k hk)
       have hb10 : Below w7.heap.size w7 w10 := (hb8.trans (hb9.mono hsz8)).trans (T10.below (fun k hk => hk) (by omega))
       have f10 : w10.frozen? ⟨g, 2, none⟩ = false := (hb10.frozen (p := ⟨g, 2, none⟩) hgw).trans f72
       have d10c : w10.cell? ⟨g, 2, none⟩ = some (.slice o.A o.n o.c) := (hb10.cell (p := ⟨g, 2, none⟩) hgw).trans d72))
  all_goals
    obtain ⟨w11, hw11⟩ : ∃ w11, w11 = w10.setCell ⟨g, 2, none⟩ (.slice A10 (o.n + 1) c10) := ⟨_, rfl⟩
    rw [← hw11]
    have hx11 : Box w11 g (dagC N L ⟨A10, o.n + 1, c10⟩) := by rw [hw11]; exact (HCX.out.below hb10 hgw).set (j := 2) (show 2 < 3 by decide)
    have hz11 : Box w11 (g + 2) (dagC 0 0 noAd) := by rw [hw11]; exact (HCZ.out.below hb10 HCZ.out.1).far (by omega)
    have t11 : Touch (fun k => k = g) w10 w11 := by rw [hw11]; exact (Touch.refl (fun k => k = g) w10).set (.inl rfl) _
    have hins : OwnY w7.heap.size w10 ⟨A10, n8 + 1, c10⟩ (insY ms8 p (x, a9)) := ho8'.ins hb9 hn9 hsz8 (((Touch.refl _ w9).alloc _).on (Touch.grown hgr fun k hk => hk)) hown rfl (by omega)
    rw [hlen8b] at hins
    have hins11 : OwnY w7.heap.size w11 ⟨A10, o.n + 1, c10⟩ (insY ms8 p (x, a9)) := hins.touch t11 (fun k hk => by have e : k = g := hk; omega)
    have hmap : (insY ms8 p (x, a9)).map Prod.fst = addC l x := by rw [map_insY, hl8, addC, HPP.out]
    have hb11 : Below g w w11 := (hbb7.trans (hb10.mono (Nat.le_of_lt hgw))).trans (t11.below (fun k hk => by have e : k = g := hk; omega) (by have := hb10.size; omega))
    have HINS := Lib.hid hins11
    have HMAP := Lib.hid hmap
    have HB11 := Lib.hid hb11
    have hs11 : w7.heap.size ≤ w11.heap.size := by have := hb10.size; have := t11.size; omega
    clear hw11 t11 hins hins11 hmap hb11 hown hgr hblk T10 hb10 f10 d10c hb9 hn9 e0 e1 e2 e3 e4 e5 hb8 hb8a ho8 ho8' hl8 f72
    go_wp2_with (first
      | (refine wpList_load_box rfl 24 _ rfl g rfl (dagC N L ⟨A10, o.n + 1, c10⟩) hx11 _ Try.underlying24 rfl size_dag ?_)
      | (refine wpList_store_box rfl 24 _ _ rfl (g + 2) 0 (dagC N L ⟨A10, o.n + 1, c10⟩) (dagC 0 0 noAd) (dagC N L ⟨A10, o.n + 1, c10⟩) rfl rfl hz11 (show 0 + 3 ≤ 3 by decide) rfl size_dag rfl ?_))
    intro w12 by12 T12
    have t12 := T12 (fun k => k = g + 2) rfl
    obtain ⟨r0, r1, r2⟩ := dag_cells by12
    have hins12 := HINS.out.touch t12 (fun k hk => by have e : k = g + 2 := hk; have := HCZ.out.1; omega)
    have hb12 : Below g w w12 := HB11.out.trans (t12.below (fun k hk => by have e : k = g + 2 := hk; omega) (by omega))
    go_wp2_with fail
    refine bodyPost_ret (v := .tuple #[dagV N L ⟨A10, o.n + 1, c10⟩, .int .i64 0]) (by simp [results, Try.results15, go_sem, r0, r1, r2, dagV]) rfl ⟨_, _, rfl, hins12.more (by rw [HG.out]; omega), HMAP.out, ?_⟩
    rw [HG.out]
    exact hb12

end Go.Proofs.Ytejkeccoialogaa
