/-
 Package worker's Make.
-/
import Derived.Test.YteepobghdpnabaaGreatKBv
import Derived.Test.YteepobghdpnabaaGreatKBh
import Derived.Test.YteepobghdpnabaaGreatKBg
namespace Go.Proofs.YteepobghdpnabaaGreat
open Go.RowKit

def zeroBC : List Value := [.int .i64 0, .int .i64 0, .slice none 0 0]
theorem bat_cells {w : World} {g : Nat} (h : Box w g zeroBC) : w.cell? ⟨g, 0, none⟩ = some (.int .i64 0) ∧ w.cell? ⟨g, 1, none⟩ = some (.int .i64 0) ∧ w.cell? ⟨g, 2, none⟩ = some (.slice none 0 0) := ⟨(h.2 0 _ rfl).1, (h.2 1 _ rfl).1, (h.2 2 _ rfl).1⟩
def RetB (ba bn : Int) (L : List TxD) (E : Int) (w : World) (e : Ending) (w' : World) : Prop := ∃ o' : Ad, e = .returned (.tuple #[.agg #[.int .i64 (if E = 0 then ba else 0), .int .i64 (if E = 0 then bn else 0), o'.v], .int .i64 E]) ∧
 w'.ownsRow w.heap.size 40 4 o'.v o'.n (txs (if E = 0 then L else [])) ∧ (if E = 0 then L else []).length = o'.n ∧ Below w.heap.size w w'

set_option maxRecDepth 100000 in
set_option maxHeartbeats 16000000 in
theorem make_any (P : WkD) (a : WkA) (w : World) (h : WIn w P a) (hf : WFew P 1000000) : Calls Tryz.prog 47 #[wkV P a] w (RetB P.i P.x (makeL P) (ifMay P (makeE P)) w) := by
 obtain ⟨g, hg⟩ : ∃ g, g = w.heap.size := ⟨_, rfl⟩
 obtain ⟨wa0, hwa0⟩ : ∃ wa0, wa0 = w.alloc (.cells #[.int .i64 P.i, .int .i64 P.N, .int .i64 P.x, .slice a.O.A a.O.n a.O.c, .int .i64 P.g, .int .i64 P.c, .slice a.W.A a.W.n a.W.c, .slice a.H.A a.H.n a.H.c, .slice a.R.A a.R.n a.R.c] 27) := ⟨_, rfl⟩
 have hs0 : wa0.heap.size = g + 1 := by rw [hwa0]; simp; omega
 have bn0 : Box wa0 (g) (wkC P a) := by rw [hwa0, hg]; exact box_new w (wkC P a) 27
 have hb0 : Below g w wa0 := by rw [hwa0]; exact (Below.refl _ _).alloc (by omega) _
 obtain ⟨wa1, hwa1⟩ : ∃ wa1, wa1 = wa0.alloc (.cells #[.int .i64 0, .int .i64 0, .slice none 0 0] 42) := ⟨_, rfl⟩
 have hs1 : wa1.heap.size = g + 2 := by rw [hwa1]; simp; omega
 have bn1 : Box wa1 (g + 1) (zeroBC) := by rw [hwa1, ← hs0]; exact box_new wa0 (zeroBC) 42
 have hb1 : Below g w wa1 := by rw [hwa1]; exact hb0.alloc (by omega) _
 have HX0 : Hid (Box wa1 (g) (wkC P a)) := (bn0.below (show Below wa0.heap.size wa0 wa1 by rw [hwa1]; exact (Below.refl _ _).alloc (Nat.le_refl _) _) (by omega))
 have HX1 : Hid (Box wa1 (g + 1) (zeroBC)) := bn1
 obtain ⟨w0, hw0⟩ : ∃ w0, w0 = wa1 := ⟨_, rfl⟩
 rw [← hw0] at HX0
 rw [← hw0] at HX1
 have hsz0 : w0.heap.size = g + 2 := by rw [hw0]; exact hs1
 have hb0w : Below g w w0 := by rw [hw0]; exact hb1
 have HW0 : Hid ((w.alloc (.cells #[.int .i64 P.i, .int .i64 P.N, .int .i64 P.x, .slice a.O.A a.O.n a.O.c, .int .i64 P.g, .int .i64 P.c, .slice a.W.A a.W.n a.W.c, .slice a.H.A a.H.n a.H.c, .slice a.R.A a.R.n a.R.c] 27)).alloc (.cells #[.int .i64 0, .int .i64 0, .slice none 0 0] 42) = w0) := by show (w.alloc (.cells #[.int .i64 P.i, .int .i64 P.N, .int .i64 P.x, .slice a.O.A a.O.n a.O.c, .int .i64 P.g, .int .i64 P.c, .slice a.W.A a.W.n a.W.c, .slice a.H.A a.H.n a.H.c, .slice a.R.A a.R.n a.R.c] 27)).alloc (.cells #[.int .i64 0, .int .i64 0, .slice none 0 0] 42) = w0; rw [hw0, hwa1, hwa0]
 have HG : Hid (w.heap.size = g) := hg.symm
 have HS0 := Lib.hid hsz0
 have HB0 := Lib.hid hb0w
 have hl0 : g < w0.heap.size := by omega
 have hl1 : g + 1 < w0.heap.size := by omega
 have hgw : g ≤ w0.heap.size := by omega
 have hcheck := check_is (mayW P) P a w0 rfl (h.below' HB0.out HG.out) hf
 obtain ⟨b, hb⟩ : ∃ b, b = mayW P := ⟨_, rfl⟩
 rw [← hb] at hcheck
 have HCK := Lib.hid hcheck
 have HBM := Lib.hid hb
 obtain ⟨E, hE⟩ : ∃ E, E = ifMay P (makeE P) := ⟨_, rfl⟩
 rw [← hE]
 have hlen : P.O.length = a.O.n := h.open_.len
 have hlenH : P.H.length = a.H.n := by rw [← h.eH, List.length_map]; exact h.held.row.len
 have HIN : Hid (∀ wX, Below w0.heap.size w0 wX → WIn wX P a) := by show ∀ wX, _; exact fun wX hX => (h.below' HB0.out HG.out).below hX
 have HF := Lib.hid hf
 have HLEN := Lib.hid hlen
 clear h hf hb hcheck
 clear hg hsz0 hb0w hw0 hwa0 hs0 bn0 hb0 hwa1 hs1 bn1 hb1
 unfold wkV Ad.v
 cases b with
 | false =>
  have HE : Hid (E = 1) := by show E = 1; rw [hE, ifMay_no HBM.out.symm]
  clear hE hlen hlenH
  go_enter Tryz.func47, Tryz.ntmps47
  go_upto_region 1 with fail
  rw [HG.out, HW0.out]
  go_wp2_with (first
   | (refine wpList_load_box rfl 27 _ rfl g rfl (wkC P a) (HX0.out) _ Tryz.underlying27 rfl size_wk ?_)
   | (go_at_call 18; refine HCK.out.mono ?_; rintro e w1 ⟨rfl, hb1⟩)
   | (refine wpList_store_box rfl 42 _ _ rfl (g + 1) 0 zeroBC zeroBC zeroBC rfl rfl (HX1.out.below hb1 hl1) (show 0 + 3 ≤ 3 by decide) rfl size_batch rfl ?_; intro w9 bx9 T9))
  obtain ⟨r0, r1, r2⟩ := bat_cells bx9
  have t9 := T9 (fun k => k = g + 1) rfl
  have hz9 := hb1.size
  refine bodyPost_ret (v := .tuple #[.agg #[.int .i64 0, .int .i64 0, noAd.v], .int .i64 1]) (by simp [results, Tryz.results47, go_sem, r0, r1, r2, Ad.v, noAd, okV]) rfl ⟨noAd, by rw [HE.out]; rfl, by rw [HE.out]; exact World.ownsRow_nil _ _ _ _, by rw [HE.out]; rfl, ?_⟩
  rw [HG.out]
  exact (HB0.out.trans (hb1.mono hgw)).trans (t9.below (fun k hk => by omega) (by omega))
 | true =>
  have hE1 : E = makeE P := by rw [hE, ifMay_yes HBM.out.symm]
  have hmw : MayW P := mayW_iff.1 HBM.out.symm
  have hroom := hmw.room
  have hfew := hmw.few
  clear hE hmw
  cases hd : dueW P with
  | false =>
   have HE : Hid (E = 10) := by show E = 10; rw [hE1, makeE, if_neg (by rw [hd]; decide)]
   have HD : Hid (∀ wX, Calls Tryz.prog 79 #[wkV P a] wX (Tells wX.heap.size wX (.bool false))) := by show ∀ wX, _; exact fun wX => isDue_is false P a wX hd hlen
   clear hE1 hd hlen hlenH
   go_enter Tryz.func47, Tryz.ntmps47
   go_upto_region 1 with fail
   rw [HG.out, HW0.out]
   go_wp2_with (first
    | (refine wpList_load_box rfl 27 _ rfl g rfl (wkC P a) (HX0.out) _ Tryz.underlying27 rfl size_wk ?_)
    | (go_at_call 18; refine HCK.out.mono ?_; rintro e w1 ⟨rfl, hb1⟩)
    | (refine wpList_load_box rfl 27 _ rfl g rfl (wkC P a) (HX0.out.below hb1 hl0) _ Tryz.underlying27 rfl size_wk ?_)
    | (go_at_call 79; refine (HD.out _).mono ?_; rintro e w2 ⟨rfl, hb2⟩; have hb02 : Below w0.heap.size w0 w2 := hb1.trans (hb2.mono hb1.size); obtain ⟨k0, k1, k2, k3, k4, k5, k6, k7, k8⟩ := wk_cells (HX0.out.below hb02 hl0))
    | (refine wpList_store_box rfl 42 _ _ rfl (g + 1) 0 zeroBC zeroBC zeroBC rfl rfl (HX1.out.below hb02 hl1) (show 0 + 3 ≤ 3 by decide) rfl size_batch rfl ?_; intro w9 bx9 T9))
   obtain ⟨r0, r1, r2⟩ := bat_cells bx9
   have t9 := T9 (fun k => k = g + 1) rfl
   have hz9 := hb02.size
   refine bodyPost_ret (v := .tuple #[.agg #[.int .i64 0, .int .i64 0, noAd.v], .int .i64 10]) (by simp [results, Tryz.results47, go_sem, r0, r1, r2, Ad.v, noAd, okV]) rfl ⟨noAd, by rw [HE.out]; rfl, by rw [HE.out]; exact World.ownsRow_nil _ _ _ _, by rw [HE.out]; rfl, ?_⟩
   rw [HG.out]
   exact (HB0.out.trans (hb02.mono hgw)).trans (t9.below (fun k hk => by omega) (by omega))
  | true =>
   have HD : Hid (∀ wX, Calls Tryz.prog 79 #[wkV P a] wX (Tells wX.heap.size wX (.bool true))) := by show ∀ wX, _; exact fun wX => isDue_is true P a wX hd hlen
   by_cases hfull : (a.H.n : Int) = 1024
   ·have HE : Hid (E = 8) := by show E = 8; rw [hE1, makeE, if_pos hd, if_pos (by omega)]
    have j1 : ((a.H.n : Int) == 1024) = true := by simp [hfull]
    clear hE1 hd hfull hlen hlenH
    go_enter Tryz.func47, Tryz.ntmps47
    go_upto_region 1 with fail
    rw [HG.out, HW0.out]
    go_wp2_with (first
     | (refine wpList_load_box rfl 27 _ rfl g rfl (wkC P a) (HX0.out) _ Tryz.underlying27 rfl size_wk ?_)
     | (go_at_call 18; refine HCK.out.mono ?_; rintro e w1 ⟨rfl, hb1⟩)
     | (refine wpList_load_box rfl 27 _ rfl g rfl (wkC P a) (HX0.out.below hb1 hl0) _ Tryz.underlying27 rfl size_wk ?_)
     | (go_at_call 79; refine (HD.out _).mono ?_; rintro e w2 ⟨rfl, hb2⟩; have hb02 : Below w0.heap.size w0 w2 := hb1.trans (hb2.mono hb1.size); obtain ⟨k0, k1, k2, k3, k4, k5, k6, k7, k8⟩ := wk_cells (HX0.out.below hb02 hl0))
     | (refine wpList_store_box rfl 42 _ _ rfl (g + 1) 0 zeroBC zeroBC zeroBC rfl rfl (HX1.out.below hb02 hl1) (show 0 + 3 ≤ 3 by decide) rfl size_batch rfl ?_; intro w9 bx9 T9))
    obtain ⟨r0, r1, r2⟩ := bat_cells bx9
    have t9 := T9 (fun k => k = g + 1) rfl
    have hz9 := hb02.size
    refine bodyPost_ret (v := .tuple #[.agg #[.int .i64 0, .int .i64 0, noAd.v], .int .i64 8]) (by simp [results, Tryz.results47, go_sem, r0, r1, r2, Ad.v, noAd, okV]) rfl ⟨noAd, by rw [HE.out]; rfl, by rw [HE.out]; exact World.ownsRow_nil _ _ _ _, by rw [HE.out]; rfl, ?_⟩
    rw [HG.out]
    exact (HB0.out.trans (hb02.mono hgw)).trans (t9.below (fun k hk => by omega) (by omega))
   ·have HE : Hid (E = 0) := by show E = 0; rw [hE1, makeE, if_pos hd, if_neg (by omega)]
    have j1 : ((a.H.n : Int) == 1024) = false := by simp [hfull]
    have hn0 : 0 < a.O.n := by
     have := due_is hlen
     rw [hd] at this
     have := this.symm
     simp only [decide_eq_true_eq] at this
     omega
    have hn64 : a.O.n ≤ 64 := by omega
    clear hE1 hd hfull hlen hlenH hfew
    obtain ⟨oA, on, oc, hoo⟩ : ∃ A n c, a.O = ⟨A, n, c⟩ := ⟨_, _, _, rfl⟩
    have HOO := Lib.hid hoo
    rw [hoo] at hn0 hn64
    simp only at hn0 hn64
    obtain ⟨m, hm8, hmn⟩ : ∃ m, (P.O.take 8).length = m ∧ ((on ≤ 8 ∧ m = on) ∨ (8 < on ∧ m = 8)) := by
     refine ⟨_, rfl, ?_⟩
     have := HLEN.out
     rw [hoo] at this
     simp only at this
     rw [List.length_take]
     omega
    have HM8 := Lib.hid hm8
    clear hoo hm8
    rcases hmn with ⟨h8, hmm⟩ | ⟨h8, hmm⟩
    ·subst hmm
     have e8 : (m : Int) ≤ 8 := by omega
     clear h8
     go_enter Tryz.func47, Tryz.ntmps47
     go_upto_region 1 with fail
     rw [HG.out, HW0.out]
     go_upto_region 8 with (first
      | (refine wpList_load_box rfl 27 _ rfl g rfl (wkC P a) (HX0.out) _ Tryz.underlying27 rfl size_wk ?_)
      | (go_at_call 18; refine HCK.out.mono ?_; rintro e w1 ⟨rfl, hb1⟩)
      | (refine wpList_load_box rfl 27 _ rfl g rfl (wkC P a) (HX0.out.below hb1 hl0) _ Tryz.underlying27 rfl size_wk ?_)
      | (go_at_call 79; refine (HD.out _).mono ?_; rintro e w2 ⟨rfl, hb2⟩; have hb02 : Below w0.heap.size w0 w2 := hb1.trans (hb2.mono hb1.size); obtain ⟨k0, k1, k2, k3, k4, k5, k6, k7, k8⟩ := wk_cells (HX0.out.below hb02 hl0)))
     rw [HOO.out] at k3
     simp only at k3
     have hop := (HIN.out _ hb02).open_
     rw [HOO.out] at hop
     obtain ⟨bl, off, hA, hbl, hcell⟩ := hop.rd.open_ (by rw [txs_length]; have := hop.len; simp only at this; omega)
     simp only at hA
     subst hA
     have hcap : m ≤ oc := by have := hop.cap; simp only at this; omega
     have HSL : Hid (SlIn w2 ⟨some ⟨bl, off, none⟩, m, oc⟩ (P.O.take 8).length (txs (P.O.take 8))) := by
      refine ⟨HM8.out, hcap, hop.max, fun hx => ⟨bl, off, rfl, hbl, fun i v hv => hcell i v ?_⟩⟩
      have hpre : txs P.O = txs (P.O.take 8) ++ txs (P.O.drop 8) := by rw [← txs_append, List.take_append_drop]
      rw [hpre, List.getElem?_append_left (List.getElem?_eq_some_iff.1 hv).1]
      exact hv
     have HB02 := Lib.hid hb02
     have hcmax : oc ≤ 9223372036854775807 := by have := hop.max; unfold maxLen at this; simpa using this
     clear hop hcell hb1 hb2
     have hcapI : (m : Int) ≤ (oc : Int) := by omega
     go_wp2_with (first
      | (go_at_call 80; refine (copied_any P.i P.x ⟨some ⟨bl, off, none⟩, m, oc⟩ (P.O.take 8) _ HSL.out (by have := HM8.out; omega)).mono ?_; rintro e w3 ⟨o3, rfl, hn3, ho3, hb3⟩)
      | (refine wpList_store_box rfl 42 _ _ rfl (g + 1) 0 [.int .i64 P.i, .int .i64 P.x, o3.v] zeroBC [.int .i64 P.i, .int .i64 P.x, o3.v] rfl rfl ((HX1.out.below HB02.out hl1).below hb3 (by have := HB02.out.size; omega)) (show 0 + 3 ≤ 3 by decide) rfl size_batch rfl ?_; intro w9 bx9 T9))
     have r0 := (bx9.2 0 _ rfl).1
     have r1 := (bx9.2 1 _ rfl).1
     have r2 : w9.cell? ⟨g + 1, 2, none⟩ = some (.slice o3.A o3.n o3.c) := (bx9.2 2 _ rfl).1
     have t9 := T9 (fun k => k = g + 1) rfl
     have hz2 := HB02.out.size
     have hz3 := hb3.size
     refine bodyPost_ret (v := .tuple #[.agg #[.int .i64 P.i, .int .i64 P.x, o3.v], .int .i64 0]) (by simp [results, Tryz.results47, go_sem, r0, r1, r2, Ad.v]) rfl ⟨o3, by rw [HE.out]; rfl, ?_, by rw [HE.out]; exact hn3.symm, ?_⟩
     ·rw [HE.out, HG.out]
      have := ownS_more (own_touch ho3 t9 (fun k hk => by omega)) (show g ≤ w2.heap.size by omega)
      rw [← hn3] at this
      exact this
     ·rw [HG.out]
      exact ((HB0.out.trans (HB02.out.mono hgw)).trans (hb3.mono (by omega))).trans (t9.below (fun k hk => by omega) (by omega))
    ·have e8 : (8 : Int) < (on : Int) := by omega
     have e9 : ¬ ((on : Int) ≤ 8) := by omega
     have e10 : 8 ≤ on := by omega
     obtain rfl : m = 8 := hmm
     clear h8
     go_enter Tryz.func47, Tryz.ntmps47
     go_upto_region 1 with fail
     rw [HG.out, HW0.out]
     go_upto_region 8 with (first
      | (refine wpList_load_box rfl 27 _ rfl g rfl (wkC P a) (HX0.out) _ Tryz.underlying27 rfl size_wk ?_)
      | (go_at_call 18; refine HCK.out.mono ?_; rintro e w1 ⟨rfl, hb1⟩)
      | (refine wpList_load_box rfl 27 _ rfl g rfl (wkC P a) (HX0.out.below hb1 hl0) _ Tryz.underlying27 rfl size_wk ?_)
      | (go_at_call 79; refine (HD.out _).mono ?_; rintro e w2 ⟨rfl, hb2⟩; have hb02 : Below w0.heap.size w0 w2 := hb1.trans (hb2.mono hb1.size); obtain ⟨k0, k1, k2, k3, k4, k5, k6, k7, k8⟩ := wk_cells (HX0.out.below hb02 hl0)))
     rw [HOO.out] at k3
     simp only at k3
     have hop := (HIN.out _ hb02).open_
     rw [HOO.out] at hop
     obtain ⟨bl, off, hA, hbl, hcell⟩ := hop.rd.open_ (by rw [txs_length]; have := hop.len; simp only at this; omega)
     simp only at hA
     subst hA
     have hcap : 8 ≤ oc := by have := hop.cap; simp only at this; omega
     have HSL : Hid (SlIn w2 ⟨some ⟨bl, off, none⟩, 8, oc⟩ (P.O.take 8).length (txs (P.O.take 8))) := by
      refine ⟨HM8.out, hcap, hop.max, fun hx => ⟨bl, off, rfl, hbl, fun i v hv => hcell i v ?_⟩⟩
      have hpre : txs P.O = txs (P.O.take 8) ++ txs (P.O.drop 8) := by rw [← txs_append, List.take_append_drop]
      rw [hpre, List.getElem?_append_left (List.getElem?_eq_some_iff.1 hv).1]
      exact hv
     have HB02 := Lib.hid hb02
     have hcmax : oc ≤ 9223372036854775807 := by have := hop.max; unfold maxLen at this; simpa using this
     clear hop hcell hb1 hb2
     have hcapI : (8 : Int) ≤ (oc : Int) := by omega
     go_wp2_with (first
      | (go_at_call 80; refine (copied_any P.i P.x ⟨some ⟨bl, off, none⟩, 8, oc⟩ (P.O.take 8) _ HSL.out (by have := HM8.out; omega)).mono ?_; rintro e w3 ⟨o3, rfl, hn3, ho3, hb3⟩)
      | (refine wpList_store_box rfl 42 _ _ rfl (g + 1) 0 [.int .i64 P.i, .int .i64 P.x, o3.v] zeroBC [.int .i64 P.i, .int .i64 P.x, o3.v] rfl rfl ((HX1.out.below HB02.out hl1).below hb3 (by have := HB02.out.size; omega)) (show 0 + 3 ≤ 3 by decide) rfl size_batch rfl ?_; intro w9 bx9 T9))
     have r0 := (bx9.2 0 _ rfl).1
     have r1 := (bx9.2 1 _ rfl).1
     have r2 : w9.cell? ⟨g + 1, 2, none⟩ = some (.slice o3.A o3.n o3.c) := (bx9.2 2 _ rfl).1
     have t9 := T9 (fun k => k = g + 1) rfl
     have hz2 := HB02.out.size
     have hz3 := hb3.size
     refine bodyPost_ret (v := .tuple #[.agg #[.int .i64 P.i, .int .i64 P.x, o3.v], .int .i64 0]) (by simp [results, Tryz.results47, go_sem, r0, r1, r2, Ad.v]) rfl ⟨o3, by rw [HE.out]; rfl, ?_, by rw [HE.out]; exact hn3.symm, ?_⟩
     ·rw [HE.out, HG.out]
      have := ownS_more (own_touch ho3 t9 (fun k hk => by omega)) (show g ≤ w2.heap.size by omega)
      rw [← hn3] at this
      exact this
     ·rw [HG.out]
      exact ((HB0.out.trans (HB02.out.mono hgw)).trans (hb3.mono (by omega))).trans (t9.below (fun k hk => by omega) (by omega))

end Go.Proofs.YteepobghdpnabaaGreat
namespace Go.Proofs.YteepobghdpnabaaGreat
open Go.RowKit

set_option maxHeartbeats 4000000 in
theorem grow_factsW (B g n i gx : Nat) (xs us : List Value) (w : World) (h : w.ownsRow B 56 2 (.slice (some ⟨g, 0, none⟩) n n) n xs) (hB : B ≤ w.heap.size) (hi : i < n) (hn : n ≤ 1000000) (h1 : ∀ v ∈ xs, v.oneCell' = true)
  (hu : us.length = 2) (hgx : w.heap[gx]? = some (.cells us.toArray 56 (0, 0))) (hu1 : ∀ v ∈ us, v.oneCell' = true) :
  ∃ (G : Nat) (w1 w2 w3 : World), n + 1 ≤ G ∧ G ≤ maxLen ∧
   (∀ ty, (Builtin.append_ #[23, 3] ty #[.slice (some ⟨g, 0, none⟩) i n, .int .i64 ((n : Int) + 1 - (i : Int))]).run Tryz.prog w = .ok (.slice (some ⟨w.heap.size, 0, none⟩) (n + 1) G) w1) ∧
   (∀ ty dc, (Builtin.copy_ #[23, 23] ty #[.slice (some ⟨w.heap.size, i * 2, none⟩) (n + 1 - i) dc, .slice (some ⟨gx, 0, none⟩) 1 1]).run Tryz.prog w1 = .ok (goInt (1 : Nat)) w2) ∧
   (∀ ty dc sc, (Builtin.copy_ #[23, 23] ty #[.slice (some ⟨w.heap.size, (i + 1) * 2, none⟩) (n - i) dc, .slice (some ⟨g, i * 2, none⟩) (n - i) sc]).run Tryz.prog w2.drew = .ok (goInt (n - i : Nat)) w3) ∧
   w3.ownsRow B 56 2 (.slice (some ⟨w.heap.size, 0, none⟩) (n + 1) G) (n + 1) (putInW xs us i) ∧ w.grownBy w3 none := by
 obtain ⟨cur, hg, hb, hnc, hcm, hcs, hx⟩ := row_open h
 obtain ⟨i0, hi0, hz0, hz1, hz2⟩ := info_parts info_zwait
 have hgl : g < w.heap.size := (Array.getElem?_eq_some_iff.1 hg).1
 have hgxl : gx < w.heap.size := (Array.getElem?_eq_some_iff.1 hgx).1
 have hgd : w.drew.heap[g]? = some (.cells cur 56 (0, 0)) := hg
 have hcl : cur.toList.length = n * 2 := by rw [Array.length_toList, hcs]
 have hcur1 : ∀ v ∈ cur.toList, v.oneCell' = true := fun v hv => h1 v (by rw [← hx, List.take_of_length_le (by omega)]; exact hv)
 have hold : (Builtin.firstCells i0.size i (.slice (some ⟨g, 0, none⟩) i n)).run Tryz.prog w.drew = .ok (cur.toList.take (i * 2)).toArray w.drew := by
  have := run_loadCells_list (P := Tryz.prog) w.drew ⟨g, 0, none⟩ ((cur.toList.drop 0).take (i * 2)) (cells_part hgd 0 (i * 2))
  simp only [List.drop_zero] at this
  have hl : (cur.toList.take (i * 2)).length = i * 2 := by rw [List.length_take]; omega
  rw [hl] at this
  simp only [Builtin.firstCells, hz1]
  exact this
 have hap : ∀ ty, (Builtin.append_ #[23, 3] ty #[.slice (some ⟨g, 0, none⟩) i n, .int .i64 ((n : Int) + 1 - (i : Int))]).run Tryz.prog w = .ok (.slice (some ⟨w.heap.size, 0, none⟩) (n + 1) (grownCap w (n + 1) n 56)) (w.drew.alloc (.cells ((cur.toList.take (i * 2)).toArray ++ Builtin.zeroCells zwait.cells (n + 1 - i) ++ Builtin.zeroCells zwait.cells (grownCap w (n + 1) n 56 - (n + 1))) 56)) := fun ty => by
  have := Lib.run_append_grow_zeros (P := Tryz.prog) w 23 3 ty 56 i0 _ .i64 .i64 Tryz.underlying23 Tryz.underlying3 hi0 hz0 (some ⟨g, 0, none⟩) i n (cur.toList.take (i * 2)) hold (n + 1 - i) (by omega) (by omega) (by omega) (by omega) (by rw [hz2]; omega) (by rw [hz2, show i + (n + 1 - i) = n + 1 by omega]; exact growslice_fits (by omega) (by omega))
  rw [show i + (n + 1 - i) = n + 1 by omega] at this
  rw [show ((n : Int) + 1 - (i : Int)) = ((n + 1 - i : Nat) : Int) by omega]
  exact this
 obtain ⟨G, hG⟩ : ∃ G, G = grownCap w (n + 1) n 56 := ⟨_, rfl⟩
 rw [← hG] at hap
 have hGn : n + 1 ≤ G := by rw [hG]; exact grownCap_ge w _ _ _
 have hGm : G ≤ maxLen := by rw [hG]; exact grownCap_le_maxLen w _ _ _ (by unfold maxLen; omega)
 obtain ⟨row, hrow⟩ : ∃ row : Array Value, row = (cur.toList.take (i * 2)).toArray ++ Builtin.zeroCells zwait.cells (n + 1 - i) ++ Builtin.zeroCells zwait.cells (G - (n + 1)) := ⟨_, rfl⟩
 rw [← hrow] at hap
 have hzc : zwait.cells.size = 2 := rfl
 have hrs : row.size = G * 2 := by
  rw [hrow]
  simp only [Array.size_append, size_zeroCells, hzc, List.size_toArray, List.length_take, hcl]
  omega
 have hrl : row.toList.length = G * 2 := by rw [Array.length_toList, hrs]
 have hr0 : row.toList.take (i * 2) = cur.toList.take (i * 2) := by
  rw [hrow]
  simp only [Array.toList_append, List.append_assoc]
  rw [List.take_append_of_le_length (by simp; omega), List.take_take, Nat.min_self]
 have hap2 : ∃ w1, (∀ ty, (Builtin.append_ #[23, 3] ty #[.slice (some ⟨g, 0, none⟩) i n, .int .i64 ((n : Int) + 1 - (i : Int))]).run Tryz.prog w = .ok (.slice (some ⟨w.heap.size, 0, none⟩) (n + 1) G) w1) ∧ w1 = w.drew.alloc (.cells row 56) := ⟨_, hap, rfl⟩
 obtain ⟨w1, hap1, hw1⟩ := hap2
 have hN1 : w1.heap[w.heap.size]? = some (.cells row 56 (0, 0)) := by rw [hw1]; exact heap_alloc_new w.drew _
 have hold1 : ∀ k, k < w.heap.size → w1.heap[k]? = w.heap[k]? := fun k hk => by rw [hw1]; exact (World.grownBy_alloc w.drew _ none).block k hk (by simp)
 have hs1 : w1.heap.size = w.heap.size + 1 := by rw [hw1]; simp
 obtain ⟨row2, hrow2⟩ : ∃ row2, row2 = over row (i * 2) us := ⟨_, rfl⟩
 obtain ⟨w2, hw2⟩ : ∃ w2, w2 = w1.setRow w.heap.size row2 := ⟨_, rfl⟩
 have hr2s : row2.size = row.size := by rw [hrow2]; exact over_size (by omega)
 have hN2 : w2.heap[w.heap.size]? = some (.cells row2 56 (0, 0)) := by rw [hw2, hrow2]; exact row_over _ hN1 _ _
 have hold2 : ∀ k, k < w.heap.size → w2.heap[k]? = w.heap[k]? := fun k hk => by rw [hw2, setRow_other _ _ _ _ (by omega)]; exact hold1 k hk
 have hN2d : w2.drew.heap[w.heap.size]? = some (.cells row2 56 (0, 0)) := hN2
 have hg2 : w2.drew.heap[g]? = some (.cells cur 56 (0, 0)) := by show w2.heap[g]? = _; rw [hold2 g hgl]; exact hg
 have hcp1 : ∀ ty dc, (Builtin.copy_ #[23, 23] ty #[.slice (some ⟨w.heap.size, i * 2, none⟩) (n + 1 - i) dc, .slice (some ⟨gx, 0, none⟩) 1 1]).run Tryz.prog w1 = .ok (goInt (1 : Nat)) w2 := by
  intro ty dc
  have := run_copy_in (P := Tryz.prog) w1 (t := 23) (ty := ty) Tryz.underlying23 hi0 hN1 (o := i * 2) (D := some ⟨w.heap.size, i * 2, none⟩) (A := some ⟨gx, 0, none⟩) (dn := n + 1 - i) (dc := dc) (k := 1) (kc := 1) (m := 1) (cs := us)
   (by simp only [Nat.min_def]; split <;> omega) (by rw [hz1]; omega) (fun _ => ⟨rfl, _, rfl, fun j v hj => by rw [Addr.add_lit, cell_of_row _ _ _ us.toArray 56 (0, 0) (by rw [hold1 gx hgxl]; exact hgx)]; simpa using hj⟩) (by rw [hz1, hrs]; omega) hu1
  rw [← hrow2, ← hw2] at this
  exact this
 obtain ⟨cs1, hcs1⟩ : ∃ cs1, cs1 = (cur.toList.drop (i * 2)).take ((n - i) * 2) := ⟨_, rfl⟩
 have hlen : cs1.length = (n - i) * 2 := by rw [hcs1]; simp; omega
 obtain ⟨row3, hrow3⟩ : ∃ row3, row3 = over row2 ((i + 1) * 2) cs1 := ⟨_, rfl⟩
 obtain ⟨w3, hw3⟩ : ∃ w3, w3 = w2.drew.setRow w.heap.size row3 := ⟨_, rfl⟩
 have hcp2 : ∀ ty dc sc, (Builtin.copy_ #[23, 23] ty #[.slice (some ⟨w.heap.size, (i + 1) * 2, none⟩) (n - i) dc, .slice (some ⟨g, i * 2, none⟩) (n - i) sc]).run Tryz.prog w2.drew = .ok (goInt (n - i : Nat)) w3 := by
  intro ty dc sc
  have := run_copy_in (P := Tryz.prog) w2.drew (t := 23) (ty := ty) Tryz.underlying23 hi0 hN2d (o := (i + 1) * 2) (D := some ⟨w.heap.size, (i + 1) * 2, none⟩) (A := some ⟨g, i * 2, none⟩) (dn := n - i) (dc := dc) (k := n - i) (kc := sc) (m := n - i) (cs := cs1)
   (by simp only [Nat.min_def]; split <;> omega) (by rw [hz1]; exact hlen) (fun _ => ⟨rfl, _, rfl, by rw [hcs1]; exact cells_part hg2 _ _⟩) (by rw [hz1, hr2s, hrs]; omega) (by rw [hcs1]; exact one_part hcur1)
  rw [← hrow3, ← hw3] at this
  exact this
 refine ⟨G, w1, w2, w3, hGn, hGm, hap1, hcp1, hcp2, ?_, ?_⟩
 ·refine row_shut (cur := row3) (by rw [hw3, hrow3]; exact row_over _ hN2d _ _) hB hGn hGm (by rw [hrow3, over_size (by rw [hr2s, hrs]; omega), hr2s, hrs]) ?_
  have hr2l : row2.toList.length = G * 2 := by rw [Array.length_toList, hr2s, hrs]
  have htk : row2.toList.take ((i + 1) * 2) = xs.take (i * 2) ++ us := by
   have hxl : xs.length = n * 2 := by rw [← hx, List.length_take]; omega
   have hA : row.toList.take (i * 2) = xs.take (i * 2) := by rw [hr0, ← hx, List.take_take, Nat.min_eq_left (by omega : i * 2 ≤ n * 2)]
   have l1 : (xs.take (i * 2) ++ us).length = (i + 1) * 2 := by rw [List.length_append, List.length_take, hxl, hu]; omega
   rw [hrow2, over_list, hA, List.take_append_of_le_length (by omega), List.take_of_length_le (by omega)]
  have hxl : xs.length = n * 2 := by rw [← hx, List.length_take]; omega
  have l1 : (xs.take (i * 2) ++ us).length = (i + 1) * 2 := by rw [List.length_append, List.length_take, hxl, hu]; omega
  have l2 : (xs.take (i * 2) ++ us ++ cs1).length = (n + 1) * 2 := by rw [List.length_append, l1, hlen]; omega
  rw [hrow3, over_list, htk, putInW, List.take_append_of_le_length (by omega), List.take_of_length_le (by omega), hcs1, ← hx, List.drop_take, show (n - i) * 2 = n * 2 - i * 2 by omega]
 ·rw [hw3]
  refine ⟨by rw [setRow_os]; show w2.os = _; rw [hw2, setRow_os, hw1]; rfl, by rw [setRow_tape]; show w2.tape = _; rw [hw2, setRow_tape, hw1]; rfl, by rw [setRow_output]; show w2.output = _; rw [hw2, setRow_output, hw1]; rfl, by rw [setRow_size]; show _ ≤ w2.heap.size; rw [hw2, setRow_size, hs1]; omega, fun k hk _ => by rw [setRow_other _ _ _ _ (by omega)]; exact hold2 k hk⟩

end Go.Proofs.YteepobghdpnabaaGreat
namespace Go.Proofs.YteepobghdpnabaaGreat
open Go.RowKit

set_option maxRecDepth 100000 in
set_option maxHeartbeats 8000000 in
theorem insert_growW (B g n i gx : Nat) (xs us : List Value) (w : World) (h : w.ownsRow B 56 2 (.slice (some ⟨g, 0, none⟩) n n) n xs) (hB : B ≤ w.heap.size) (hi : i < n) (hn : n ≤ 1000000) (h1 : ∀ v ∈ xs, v.oneCell' = true)
  (hu : us.length = 2) (hgx : w.heap[gx]? = some (.cells us.toArray 56 (0, 0))) (hu1 : ∀ v ∈ us, v.oneCell' = true) :
  Calls Tryz.prog 94 #[.slice (some ⟨g, 0, none⟩) n n, .int .i64 i, .slice (some ⟨gx, 0, none⟩) 1 1] w fun e w' =>
   ∃ G, e = .returned (.slice (some ⟨w.heap.size, 0, none⟩) (n + 1) G) ∧ w'.ownsRow B 56 2 (.slice (some ⟨w.heap.size, 0, none⟩) (n + 1) G) (n + 1) (putInW xs us i) ∧ w.grownBy w' none := by
 obtain ⟨G, w1, w2, w3, hG1, hG2, hap, hcp1, hcp2, hown, hgr⟩ := grow_factsW B g n i gx xs us w h hB hi hn h1 hu hgx hu1
 have HA := Lib.hid hap
 have H1 := Lib.hid hcp1
 have H2 := Lib.hid hcp2
 have HO := Lib.hid hown
 unfold maxLen at hG2
 clear hap hcp1 hcp2 hown h hgx hu hu1 h1 hB
 obtain ⟨N, hN⟩ : ∃ N, N = w.heap.size := ⟨_, rfl⟩
 rw [← hN] at HA H1 H2 HO ⊢
 clear hN
 have e1 : (0 : Int) ≤ (i : Int) := by omega
 have e2 : (i : Int) ≤ (n : Int) := by omega
 have e3 : ¬ ((i : Int) = (n : Int)) := by omega
 have e4 : (n : Int) < (n : Int) + 1 := by omega
 have e6 : ((i : Int) + 1).toNat = i + 1 := by omega
 have e7 : (0 : Int) ≤ (i : Int) + 1 := by omega
 have e8 : (i : Int) + 1 ≤ (n : Int) + 1 := by omega
 have e9 : (i : Int) ≤ (n : Int) + 1 := by omega
 have f1 : ¬ (n = i) := by omega
 have f2 : ¬ (G = i) := by omega
 have f3 : ¬ (G = i + 1) := by omega
 have f4 : i ≤ n + 1 := by omega
 have f5 : ((n : Int) + 1).toNat = n + 1 := by omega
 have f7 : i + 1 ≤ n + 1 := by omega
 have f8 : i ≤ n := by omega
 go_enter Tryz.func94, Tryz.ntmps94
 go_wp2_with (first | (at_builtin; refine wpList_app_run (o := ⟨some 40, _, _, _, _, _⟩) _ rfl (.tmp 34) (.tmp 39) 23 3 rfl rfl rfl (HA.out _) ?_) | refine wpList_copy_run (o := ⟨some 45, _, _, _, _, _⟩) _ rfl (.tmp 43) (.tmp 44) 23 23 rfl rfl rfl (H1.out _ _) ?_)
 have g1 : IntKind.i64.wrap ((i : Int) + 1) = (i : Int) + 1 := IntWalk.i64_in _ (by omega)
 go_still_tail 8, (by kernel_rfl)
 change wpList _ _ _ _ _ w2.drew
 go_wp2_with (first | refine wpList_copy_run (o := ⟨some 54, _, _, _, _, _⟩) _ rfl (.tmp 50) (.tmp 53) 23 23 rfl rfl rfl (H2.out _ _ _) ?_)
 go_ret
 exact ⟨G, rfl, HO.out, hgr⟩

end Go.Proofs.YteepobghdpnabaaGreat
namespace Go.Proofs.YteepobghdpnabaaGreat
open Go.RowKit

set_option maxRecDepth 100000 in
set_option maxHeartbeats 4000000 in
theorem insert_endW (B gx n : Nat) (v : Value) (xs us : List Value) (w : World) (h : w.ownsRow B 56 2 v n xs) (hB : B ≤ w.heap.size) (hn : n ≤ 1000000)
  (hu : us.length = 2) (hgx : w.heap[gx]? = some (.cells us.toArray 56 (0, 0))) (hu1 : ∀ v ∈ us, v.oneCell' = true) :
  Calls Tryz.prog 94 #[v, .int .i64 n, .slice (some ⟨gx, 0, none⟩) 1 1] w fun e w' =>
   ∃ g' c', e = .returned (.slice (some ⟨g', 0, none⟩) (n + 1) c') ∧ w'.ownsRow B 56 2 (.slice (some ⟨g', 0, none⟩) (n + 1) c') (n + 1) (xs ++ us) ∧ w.grownBy w' v.ownBlock ∧ (v.ownBlock = some g' ∨ g' = w.heap.size) := by
 obtain ⟨i0, hi0, hz0, hz1, hz2⟩ := info_parts info_zwait
 have hcell : ∀ j y, us[j]? = some y → w.cell? ((⟨gx, 0, none⟩ : Addr).add j) = some y := fun j y hj => by
  rw [Addr.add_lit, cell_of_row _ _ _ _ _ _ hgx]; simpa using hj
 have HU := Lib.hid hcell
 have HL := Lib.hid hu
 have HO := Lib.hid hu1
 clear hcell hu hgx hu1
 have hown := h
 obtain ⟨A, c, rfl, hnc, hcm, _, _, hxl⟩ := ownS_slice h
 have HX := Lib.hid hxl
 have HW := Lib.hid hown
 clear h hown hxl
 unfold maxLen at hcm
 have e1 : (0 : Int) ≤ (n : Int) := by omega
 by_cases hc : c = n
 all_goals rcases A with _ | A
 all_goals
  go_enter Tryz.func94, Tryz.ntmps94
  go_wp2_with (at_builtin; refine wpList_append_lies (o := ⟨some 25, _, _, _, _, _⟩) _ rfl (.tmp 23) (.tmp 24) 23 rfl B 56 i0 zwait 2 32 Tryz.underlying23 hi0 hz0 hz1 hz2 rfl (by decide) (.slice _ n c) n xs rfl HW.out ⟨gx, 0, none⟩ 1 1 us rfl HL.out HU.out HO.out (by decide) (by unfold maxLen; omega) (by omega) hB _ rfl ?_)
  intro g' c' w' k1 k2 k3 k4
  go_wp2
  go_ret
  exact ⟨g', c', rfl, k1, k2, k3⟩

end Go.Proofs.YteepobghdpnabaaGreat
namespace Go.Proofs.YteepobghdpnabaaGreat
open Go.RowKit

theorem putIn_endW {xs us : List Value} {n : Nat} (h : xs.length = n * 2) : putInW xs us n = xs ++ us := by
 rw [putInW, List.take_of_length_le (by omega), List.drop_of_length_le (by omega), List.append_nil]

theorem insert_anyW (B gx n i : Nat) (v : Value) (xs us : List Value) (w : World) (h : w.ownsRow B 56 2 v n xs) (hB : B ≤ w.heap.size) (hi : i ≤ n) (hn : n ≤ 1000000) (h1 : ∀ v ∈ xs, v.oneCell' = true)
  (hu : us.length = 2) (hgx : w.heap[gx]? = some (.cells us.toArray 56 (0, 0))) (hu1 : ∀ v ∈ us, v.oneCell' = true) (hne : v.ownBlock ≠ some gx) :
  Calls Tryz.prog 94 #[v, .int .i64 i, .slice (some ⟨gx, 0, none⟩) 1 1] w fun e w' =>
   ∃ v', e = .returned v' ∧ w'.ownsRow B 56 2 v' (n + 1) (putInW xs us i) ∧ w.grownBy w' v.ownBlock ∧ (v'.ownBlock = v.ownBlock ∨ v'.ownBlock = some w.heap.size) := by
 rcases Nat.lt_or_ge i n with hlt | hge
 ·rcases h.2 with ⟨rfl, h0⟩ | ⟨g, cap, cur, rfl, hb, hg, hnc, hcm, hcs, ht⟩
  ·omega
  ·have hgg : gx ≠ g := fun e => hne (by rw [e]; rfl)
   rcases Nat.lt_or_ge n cap with hroom | hfull
   ·refine (insert_roomW B g cap n i gx xs us w h hlt (by omega) hn h1 hu hgx hu1 hgg).mono ?_
    rintro e w' ⟨rfl, h2, h3⟩
    exact ⟨_, rfl, h2, h3, .inl rfl⟩
   ·obtain rfl : cap = n := by omega
    refine (insert_growW B g cap i gx xs us w h hB hlt hn h1 hu hgx hu1).mono ?_
    rintro e w' ⟨G, rfl, h2, h3⟩
    exact ⟨_, rfl, h2, ⟨h3.os, h3.tape, h3.output, h3.size, fun k hk _ => h3.block k hk (by simp)⟩, .inr rfl⟩
 ·obtain rfl : i = n := by omega
  refine (insert_endW B gx i v xs us w h hB hn hu hgx hu1).mono ?_
  rintro e w' ⟨g', c', rfl, h2, h3, h4⟩
  exact ⟨_, rfl, by rw [putIn_endW h.1]; exact h2, h3, h4.elim (fun h => .inl h.symm) (fun h => .inr (by rw [h]; rfl))⟩

end Go.Proofs.YteepobghdpnabaaGreat
