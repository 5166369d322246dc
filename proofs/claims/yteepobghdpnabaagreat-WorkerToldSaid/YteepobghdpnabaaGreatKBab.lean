/-
 What Sealed needs ahead: what Make told, the batch and the result aside, a wait more.
-/
import Derived.Lib.MinMax
import Derived.Test.YteepobghdpnabaaGreatKBaa
import Derived.Test.YteepobghdpnabaaGreatKBn
import Derived.Test.YteepobghdpnabaaGreatKBk
import Derived.Test.YteepobghdpnabaaGreatKBm
import Derived.Test.YteepobghdpnabaaGreatKBq
namespace Go.Proofs.YteepobghdpnabaaGreat
open Go.RowKit

theorem retB_no {ba bn E : Int} {L : List TxD} {w w' : World} {e : Ending} (h : RetB ba bn L E w e w') : ∃ x1 x2 A n c, e = .returned (.tuple #[.agg #[.int .i64 x1, .int .i64 x2, .slice A n c], .int .i64 E]) ∧ Below w.heap.size w w' := by
 obtain ⟨o', h1, h2, h3, h4⟩ := h
 exact ⟨_, _, o'.A, o'.n, o'.c, h1, h4⟩
theorem retB_yes {ba bn : Int} {L : List TxD} {w w' : World} {e : Ending} (h : RetB ba bn L 0 w e w') : ∃ A n c, e = .returned (.tuple #[.agg #[.int .i64 ba, .int .i64 bn, .slice A n c], .int .i64 0]) ∧ w'.ownsRow w.heap.size 40 4 (.slice A n c) n (txs L) ∧ L.length = n ∧ Below w.heap.size w w' := by
 obtain ⟨o', h1, h2, h3, h4⟩ := h
 exact ⟨o'.A, o'.n, o'.c, h1, h2, h3, h4⟩

structure SK (B g q : Nat) (b : List Value) (o : Ad) (L : List TxD) (w : World) : Prop where
 res : Box w (g + 1) zeroC
 bat : Box w q b
 sl : SlIn w o L.length (txs L)
 lt : g + 1 < q ∧ q < B
 at_ : ∀ x, o.A = some x → x.block ≠ g ∧ x.block < B
theorem SK.touch {B g q : Nat} {b : List Value} {o : Ad} {L : List TxD} {w w' : World} (h : SK B g q b o L w) (ht : Touch (fun k => k = g ∨ B ≤ k) w w') : SK B g q b o L w' :=
 ⟨h.res.touch ht (by have := h.lt; omega), h.bat.touch ht (by have := h.lt; omega), h.sl.touch ht (fun x hx => by have := h.at_ x hx; omega), h.lt, h.at_⟩

section
variable {B : Nat} {w w' : World} {P : WkD} {a : WkA}
theorem WNew.nums (h : WNew B w P a) (x g c : Int) : WNew B w { P with x := x, g := g, c := c } a := ⟨⟨h.core.waits, h.core.eW, h.core.held, h.core.eH, h.core.ready, h.core.rL, h.core.apR⟩, h.open_, h.oL, h.apO⟩
end

theorem putW (ms : List (WtD × Ad)) (i : Nat) (d : Int) (S : List Int) (o : Ad) : putInW (cellsK KW ms) [.int .i64 d, o.v] i = (cellsK KW ms).take (i * KW.s) ++ KW.cells ⟨d, S⟩ o.v ++ (cellsK KW ms).drop (i * KW.s) := rfl

theorem wait_end {B g p : Nat} {w1 w2 w4 w5 : World} {P : WkD} {a : WkA} {o' o4 : Ad} {ob : Obj} {d : Int} {S : List Int} (h : WAt B g w1 P a) (hb2 : Below w1.heap.size w1 w2) (ho : w2.ownsRow w1.heap.size 3 1 o'.v o'.n (i64s S)) (hl : S.length = o'.n)
  (hown : w4.ownsRow B 56 2 o4.v o4.n (putInW (cellsK KW a.ms) [.int .i64 d, o'.v] p)) (hn : o4.n = a.W.n + 1) (hgr : (w2.alloc ob).grownBy w4 a.W.v.ownBlock) (hp : p ≤ a.W.n)
  (hbx : Box w5 g (wkC { P with W := insAt P.W p ⟨d, S⟩ } { a with W := o4, ms := insAt a.ms p (⟨d, S⟩, o') })) (Tg : Touch (fun k => k = g) w4 w5) :
  WAt B g w5 { P with W := insAt P.W p ⟨d, S⟩ } { a with W := o4, ms := insAt a.ms p (⟨d, S⟩, o') } ∧ Touch (fun k => k = g ∨ B ≤ k) w1 w5 := by
 have T24 : Touch (fun k => a.W.v.ownBlock = some k) w2 w4 := ((Touch.refl _ w2).alloc ob).on (Touch.grown hgr fun k hk => hk)
 have T14 : Touch (fun k => a.W.v.ownBlock = some k) w1 w4 := (Touch.of hb2).on T24
 have hle := h.le
 have hlt := h.lt
 have hrow := h.new.core.waits.ins (x := WtD.mk d S) (o := o') hb2 ho hl hle T24 (by rw [← putW]; exact hown) hn (by rw [h.new.core.waits.len]; exact hp)
 have hnew := h.new.setW T14 hrow (L := insAt P.W p ⟨d, S⟩) (by rw [map_ins, h.new.core.eW]) (fun x hx k hk hk2 => by
  rcases mem_ins hx with rfl | hx
  ·have := (own_lt ho hk2).2
   have := (own_lt h.new.core.ready hk).1
   omega
  ·exact h.new.core.apR x hx k hk hk2)
 have hH : ∀ k, a.W.v.ownBlock = some k → B ≤ k := fun k hk => (own_lt h.new.core.waits.row hk).2
 have hT4 : Touch (fun k => k = g ∨ B ≤ k) w1 w4 := T14.mono fun k hk => .inr (hH k hk)
 have hs := T14.size
 refine ⟨⟨hbx, hnew.touch Tg (fun k hk ho => by have := (hnew.core.lt ho).2; omega) (fun k hk ho => by have := (own_lt hnew.open_ ho).2; omega), hlt, by have := Tg.size; omega⟩, hT4.on (Tg.mono fun k hk => .inl hk)⟩

theorem txs_drop (L : List TxD) (j : Nat) (h : j ≤ L.length) : (txs L).drop (j * 4) = txs (L.drop j) := by
 have hpre : txs L = txs (L.take j) ++ txs (L.drop j) := by rw [← txs_append, List.take_append_drop]
 rw [hpre, List.drop_left' (by rw [txs_length, List.length_take, Nat.min_eq_left h])]

/-! ### on plain data -/
section
variable {P : WkD} {d a n : Int} {L : List TxD} {S : List Int}
theorem holdW_same : (holdW P d a n L).i = P.i ∧ (holdW P d a n L).N = P.N ∧ (holdW P d a n L).W = P.W ∧ (holdW P d a n L).R = P.R ∧ (holdW P d a n L).O = P.O := by unfold holdW; split <;> exact ⟨rfl, rfl, rfl, rfl, rfl⟩
theorem holdW_mem {x : HlD} (h : x ∈ (holdW P d a n L).H) : x = ⟨d, a, n, L⟩ ∨ x ∈ P.H := by
 unfold holdW at h
 split at h
 ·exact .inr h
 ·rcases List.mem_append.1 h with h | h
  ·exact .inr (List.mem_of_mem_take h)
  ·rcases List.mem_cons.1 h with h | h
   ·exact .inl h
   ·exact .inr (List.mem_of_mem_drop h)
theorem holdW_len : (holdW P d a n L).H.length ≤ P.H.length + 1 := by
 unfold holdW
 split
 ·omega
 ·show (insAt P.H (posI P.hs d) _).length ≤ _
  rw [insAt_length _ _ _ (by have := posI_le P.hs d; simp [WkD.hs] at this ⊢; omega)]
  omega
theorem waitW_same : (waitW P d).i = P.i ∧ (waitW P d).N = P.N ∧ (waitW P d).H = P.H ∧ (waitW P d).R = P.R ∧ (waitW P d).O = P.O := by unfold waitW; split <;> exact ⟨rfl, rfl, rfl, rfl, rfl⟩
theorem waitW_mem {x : WtD} (h : x ∈ (waitW P d).W) : x = ⟨d, [P.i]⟩ ∨ x ∈ P.W := by
 unfold waitW at h
 split at h
 ·exact .inr h
 ·rcases List.mem_append.1 h with h | h
  ·exact .inr (List.mem_of_mem_take h)
  ·rcases List.mem_cons.1 h with h | h
   ·exact .inl h
   ·exact .inr (List.mem_of_mem_drop h)
theorem waitW_len : (waitW P d).W.length ≤ P.W.length + 1 := by
 unfold waitW
 split
 ·omega
 ·show (insAt P.W (posI P.ds d) _).length ≤ _
  rw [insAt_length _ _ _ (by have := posI_le P.ds d; simp [WkD.ds] at this ⊢; omega)]
  omega
theorem askW_like {Q : WkD} (h1 : Q.i = P.i) (h2 : Q.N = P.N) : askW Q d a n L S = askW P d a n L S := by unfold askW toW; rw [h1, h2]
theorem MayW.may (h : MayW P) : Go.Proofs.YteepobghdpnabaaGreat.may P.N = true := by rw [← may_is]; exact h.nodes
theorem MayW.digs' (h : MayW P) : ∀ x ∈ P.W, digB x.d = true := fun x hx => by
 obtain ⟨i, hi⟩ := List.mem_iff_getElem?.1 hx
 exact (h.waits i x hi).1
theorem makeL_len : (makeL P).length ≤ 8 := by unfold makeL; rw [List.length_take]; omega
end
theorem seal_few {P : WkD} {d : Int} (h : MayW P) (hf : WFew P 300000) (hd : digB d = true) : (sealM P d).i = P.i ∧ (sealM P d).N = P.N ∧ (∀ x ∈ (sealM P d).W, digB x.d = true) ∧ WFew (sealM P d) 400000 := by
 obtain ⟨P1, h1⟩ : ∃ P1 : WkD, P1 = { P with O := P.O.drop 8, x := P.x + 1, g := 0 } := ⟨_, rfl⟩
 obtain ⟨P2, h2⟩ : ∃ P2, P2 = holdW P1 d P.i P.x (makeL P) := ⟨_, rfl⟩
 have e : sealM P d = waitW P2 d := by rw [h2, h1]; rfl
 have a2 := holdW_same (P := P1) (d := d) (a := P.i) (n := P.x) (L := makeL P)
 have a3 := waitW_same (P := P2) (d := d)
 rw [← h2] at a2
 rw [e]
 have i1 : P1.i = P.i := by rw [h1]
 have n1 : P1.N = P.N := by rw [h1]
 have w1 : P1.W = P.W := by rw [h1]
 have H1 : P1.H = P.H := by rw [h1]
 have r1 : P1.R = P.R := by rw [h1]
 have o1 : P1.O = P.O.drop 8 := by rw [h1]
 refine ⟨by rw [a3.1, a2.1, i1], by rw [a3.2.1, a2.2.1, n1], fun x hx => ?_, ⟨?_, ?_, ?_, ?_, fun x hx => ?_, fun x hx => ?_⟩⟩
 ·rcases waitW_mem hx with rfl | hx
  ·exact hd
  ·rw [a2.2.2.1, w1] at hx
   exact h.digs' x hx
 ·rw [a3.2.2.2.2, a2.2.2.2.2, o1, List.length_drop]; have := hf.o; omega
 ·have := waitW_len (P := P2) (d := d); rw [a2.2.2.1, w1] at this; have := hf.w; omega
 ·rw [a3.2.2.1]; have := holdW_len (P := P1) (d := d) (a := P.i) (n := P.x) (L := makeL P); rw [← h2, H1] at this; have := hf.h; omega
 ·rw [a3.2.2.2.1, a2.2.2.2.1, r1]; have := hf.r; omega
 ·rcases waitW_mem hx with rfl | hx
  ·simp
  ·rw [a2.2.2.1, w1] at hx
   have := hf.s x hx; omega
 ·rw [a3.2.2.1, h2] at hx
  rcases holdW_mem hx with rfl | hx
  ·have := makeL_len (P := P); show (makeL P).length ≤ _; omega
  ·rw [H1] at hx
   have := hf.l x hx; omega

end Go.Proofs.YteepobghdpnabaaGreat
namespace Go.Proofs.YteepobghdpnabaaGreat
open Go.RowKit

theorem ifMay_zero {P : WkD} {e : Int} (h : ifMay P e = 0) : mayW P = true ∧ e = 0 := by
 unfold ifMay at h
 split at h
 ·exact ⟨by assumption, h⟩
 ·omega

set_option maxRecDepth 100000 in
set_option maxHeartbeats 16000000 in
theorem sealed_no (P : WkD) (a : WkA) (d : Int) (w : World) (h : WIn w P a) (hf : WFew P 300000) (hne : ifMay P (sealE P d) ≠ 0) : Calls Tryz.prog 52 #[wkV P a, .int .i64 d] w (Ret3 (orW (ifMay P (sealE P d)) (sealW P d)) (orO (ifMay P (sealE P d)) (sealO P d)) (ifMay P (sealE P d)) w) := by
  obtain ⟨g, hg⟩ : ∃ g, g = w.heap.size := ⟨_, rfl⟩
  obtain ⟨wa0, hwa0⟩ : ∃ wa0, wa0 = w.alloc (.cells #[.int .i64 P.i, .int .i64 P.N, .int .i64 P.x, .slice a.O.A a.O.n a.O.c, .int .i64 P.g, .int .i64 P.c, .slice a.W.A a.W.n a.W.c, .slice a.H.A a.H.n a.H.c, .slice a.R.A a.R.n a.R.c] 27) := ⟨_, rfl⟩
  have hs0 : wa0.heap.size = g + 1 := by rw [hwa0]; simp; omega
  have bn0 : Box wa0 (g) (wkC P a) := by rw [hwa0, hg]; exact box_new w (wkC P a) 27
  have hb0 : Below g w wa0 := by rw [hwa0]; exact (Below.refl _ _).alloc (by omega) _
  obtain ⟨wa1, hwa1⟩ : ∃ wa1, wa1 = wa0.alloc (.cells #[.int .i64 0, .int .i64 0, .int .i64 0, .slice none 0 0, .int .i64 0, .int .i64 0, .slice none 0 0, .slice none 0 0, .slice none 0 0] 27) := ⟨_, rfl⟩
  have hs1 : wa1.heap.size = g + 2 := by rw [hwa1]; simp; omega
  have bn1 : Box wa1 (g + 1) (zeroC) := by rw [hwa1, ← hs0]; exact box_new wa0 (zeroC) 27
  have hb1 : Below g w wa1 := by rw [hwa1]; exact hb0.alloc (by omega) _
  have HX0 : Hid (Box wa1 (g) (wkC P a)) := (bn0.below (show Below wa0.heap.size wa0 wa1 by rw [hwa1]; exact (Below.refl _ _).alloc (Nat.le_refl _) _) (by omega))
  have HX1 : Hid (Box wa1 (g + 1) (zeroC)) := bn1
  obtain ⟨w0, hw0⟩ : ∃ w0, w0 = wa1 := ⟨_, rfl⟩
  rw [← hw0] at HX0
  rw [← hw0] at HX1
  have hsz0 : w0.heap.size = g + 2 := by rw [hw0]; exact hs1
  have hb0w : Below g w w0 := by rw [hw0]; exact hb1
  have HW0 : Hid ((w.alloc (.cells #[.int .i64 P.i, .int .i64 P.N, .int .i64 P.x, .slice a.O.A a.O.n a.O.c, .int .i64 P.g, .int .i64 P.c, .slice a.W.A a.W.n a.W.c, .slice a.H.A a.H.n a.H.c, .slice a.R.A a.R.n a.R.c] 27)).alloc (.cells #[.int .i64 0, .int .i64 0, .int .i64 0, .slice none 0 0, .int .i64 0, .int .i64 0, .slice none 0 0, .slice none 0 0, .slice none 0 0] 27) = w0) := by show (w.alloc (.cells #[.int .i64 P.i, .int .i64 P.N, .int .i64 P.x, .slice a.O.A a.O.n a.O.c, .int .i64 P.g, .int .i64 P.c, .slice a.W.A a.W.n a.W.c, .slice a.H.A a.H.n a.H.c, .slice a.R.A a.R.n a.R.c] 27)).alloc (.cells #[.int .i64 0, .int .i64 0, .int .i64 0, .slice none 0 0, .int .i64 0, .int .i64 0, .slice none 0 0, .slice none 0 0, .slice none 0 0] 27) = w0; rw [hw0, hwa1, hwa0]
  have HG : Hid (w.heap.size = g) := hg.symm
  have HS0 := Lib.hid hsz0
  have HB0 := Lib.hid hb0w
  have hl0 : g < w0.heap.size := by omega
  have hl1 : g + 1 < w0.heap.size := by omega
  have hgw : g ≤ w0.heap.size := by omega
  have hin0 := h.below' HB0.out HG.out
  have hmake := make_any P a w0 hin0 (hf.more (by decide))
  have HIN : Hid (∀ wX, Below w0.heap.size w0 wX → WIn wX P a) := by show ∀ wX, _; exact fun wX hX => hin0.below hX
  have HF := Lib.hid hf
  obtain ⟨E, hE⟩ : ∃ E, E = ifMay P (sealE P d) := ⟨_, rfl⟩
  rw [← hE] at hne ⊢
  have HQ : Hid (orW E (sealW P d) = zeroW) := orW_no hne _
  have HL : Hid (orO E (sealO P d) = []) := orO_no hne _
  obtain ⟨M, hM⟩ : ∃ M, M = ifMay P (makeE P) := ⟨_, rfl⟩
  rw [← hM] at hmake
  have HMK := Lib.hid hmake
  clear hg hsz0 hb0w hw0 hwa0 hs0 bn0 hb0 hwa1 hs1 bn1 hb1
  clear hmake hin0 h
  unfold wkV Ad.v
  by_cases hM0 : M = 0
  · obtain ⟨hmay, hmk⟩ := ifMay_zero (hM.symm.trans hM0)
    have hmw := mayW_iff.1 hmay
    have hE1 : E = sealE P d := by rw [hE, ifMay_yes hmay]
    rw [sealE, if_neg (by rw [hmk]; decide)] at hE1
    subst hM0
    cases hdb : digB d with
    | false =>
      have HE : Hid (E = 1) := by show E = 1; rw [hE1, hdb]; rfl
      have HDB := Lib.hid hdb
      clear hE hE1 hdb hM hmay hmk hmw hf hne
      go_enter Tryz.func52, Tryz.ntmps52
      go_upto_region 1 with fail
      rw [HG.out, HW0.out]
      go_wp2_with (first
        | (refine wpList_load_box rfl 27 _ rfl g rfl (wkC P a) (HX0.out) _ Tryz.underlying27 rfl size_wk ?_)
        | (go_at_call 47; refine HMK.out.mono ?_; intro e w1 hR; obtain ⟨x1, x2, A1, n1, c1, rfl, hb1⟩ := retB_no hR; have bn1 := box_new w1 zeroBC 42)
        | (refine wpList_store_box rfl 42 _ _ rfl w1.heap.size 0 [.int .i64 x1, .int .i64 x2, .slice A1 n1 c1] zeroBC [.int .i64 x1, .int .i64 x2, .slice A1 n1 c1] rfl rfl bn1 (show 0 + 3 ≤ 3 by decide) rfl size_batch rfl ?_
           intro w2 bx2 T2
           have t2 := T2 (fun k => k = w1.heap.size) rfl
           have hb02 : Below w0.heap.size w0 w2 := (hb1.alloc hb1.size _).trans (t2.below (fun k hk => by have := hb1.size; omega) (by have := hb1.size; simp; omega)))
        | (go_at_call 41; refine (zdig_is false d HDB.out _).mono ?_; rintro e w2' ⟨rfl, rfl⟩)
        | (refine wpList_store_box rfl 27 _ _ rfl (g + 1) 0 zeroC zeroC zeroC rfl rfl (HX1.out.below hb02 hl1) (show 0 + 9 ≤ 9 by decide) rfl size_wk rfl ?_; intro w9 bx9 T9))
      obtain ⟨r0, r1, r2, r3, r4, r5, r6, r7, r8⟩ := zero_cells bx9
      have t9 := T9 (fun k => k = g + 1) rfl
      refine bodyPost_ret (v := .tuple #[wkV zeroW zeroWA, .slice none 0 0, .int .i64 1]) (by simp [results, Tryz.results52, go_sem, r0, r1, r2, r3, r4, r5, r6, r7, r8, wkV, Ad.v, zeroW, zeroWA, noAd]) rfl ⟨zeroWA, noAd, [], by rw [HQ.out, HE.out]; rfl, by rw [HQ.out]; exact wNew_zero _ _, rowOwn_none _ _, by rw [HL.out]; rfl, fun y hy => by simp at hy, ?_⟩
      have hz9 := (hb02).size
      rw [HG.out]
      exact (HB0.out.trans (hb02.mono hgw)).trans (t9.below (fun k hk => by omega) (by omega))
    | true =>
      rw [hdb, if_pos rfl] at hE1
      by_cases hd : d ∈ P.hs
      · have HE : Hid (E = 4) := by show E = 4; rw [hE1, if_pos hd]
        have HDB := Lib.hid hdb
        have hrise := hmw.hrise
        have HFD : Hid (∀ wX, Below w0.heap.size w0 wX → Calls Tryz.prog 89 #[wkV P a, .int .i64 d] wX fun e w' => e = .returned (.tuple #[.int .i64 (posI P.hs d), .bool true]) ∧ Below wX.heap.size wX w') := by
          show ∀ wX, _
          intro wX hX
          have hw := HIN.out wX hX
          have := findHeld_any P a d wX hw.held hw.eH (by have := HF.out.h; omega) hrise
          rw [decide_eq_true hd] at this
          exact this
        obtain ⟨p, hp⟩ : ∃ p, p = posI P.hs d := ⟨_, rfl⟩
        rw [← hp] at HFD
        clear hE hE1 hdb hM hmay hmk hmw hf hne hrise hd hp
        go_enter Tryz.func52, Tryz.ntmps52
        go_upto_region 1 with fail
        rw [HG.out, HW0.out]
        go_wp2_with (first
          | (refine wpList_load_box rfl 27 _ rfl g rfl (wkC P a) (HX0.out) _ Tryz.underlying27 rfl size_wk ?_)
          | (go_at_call 47; refine HMK.out.mono ?_; intro e w1 hR; obtain ⟨x1, x2, A1, n1, c1, rfl, hb1⟩ := retB_no hR; have bn1 := box_new w1 zeroBC 42)
          | (refine wpList_store_box rfl 42 _ _ rfl w1.heap.size 0 [.int .i64 x1, .int .i64 x2, .slice A1 n1 c1] zeroBC [.int .i64 x1, .int .i64 x2, .slice A1 n1 c1] rfl rfl bn1 (show 0 + 3 ≤ 3 by decide) rfl size_batch rfl ?_
             intro w2 bx2 T2
             have t2 := T2 (fun k => k = w1.heap.size) rfl
             have hb02 : Below w0.heap.size w0 w2 := (hb1.alloc hb1.size _).trans (t2.below (fun k hk => by have := hb1.size; omega) (by have := hb1.size; simp; omega)))
          | (go_at_call 41; refine (zdig_is true d HDB.out _).mono ?_; rintro e w2' ⟨rfl, rfl⟩)
          | (refine wpList_load_box rfl 27 _ rfl g rfl (wkC P a) (HX0.out.below hb02 hl0) _ Tryz.underlying27 rfl size_wk ?_)
          | (go_at_call 89; refine (HFD.out _ hb02).mono ?_; rintro e w3 ⟨rfl, hb3⟩; have hb03 : Below w0.heap.size w0 w3 := hb02.trans (hb3.mono hb02.size))
          | (refine wpList_store_box rfl 27 _ _ rfl (g + 1) 0 zeroC zeroC zeroC rfl rfl (HX1.out.below hb03 hl1) (show 0 + 9 ≤ 9 by decide) rfl size_wk rfl ?_; intro w9 bx9 T9))
        obtain ⟨r0, r1, r2, r3, r4, r5, r6, r7, r8⟩ := zero_cells bx9
        have t9 := T9 (fun k => k = g + 1) rfl
        refine bodyPost_ret (v := .tuple #[wkV zeroW zeroWA, .slice none 0 0, .int .i64 4]) (by simp [results, Tryz.results52, go_sem, r0, r1, r2, r3, r4, r5, r6, r7, r8, wkV, Ad.v, zeroW, zeroWA, noAd]) rfl ⟨zeroWA, noAd, [], by rw [HQ.out, HE.out]; rfl, by rw [HQ.out]; exact wNew_zero _ _, rowOwn_none _ _, by rw [HL.out]; rfl, fun y hy => by simp at hy, ?_⟩
        have hz9 := (hb03).size
        rw [HG.out]
        exact (HB0.out.trans (hb03.mono hgw)).trans (t9.below (fun k hk => by omega) (by omega))
      · exact absurd (by rw [hE1, if_neg hd]) hne
  · have HE : Hid (E = M) := by
      show E = M
      rw [hE, hM]
      cases hmay : mayW P with
      | false => rw [ifMay_no hmay, ifMay_no hmay]
      | true =>
        rw [ifMay_yes hmay, ifMay_yes hmay, sealE, if_pos]
        rw [hM, ifMay_yes hmay] at hM0
        exact hM0
    have j1 : (M == 0) = false := by simp [hM0]
    clear hE hM hf hne hM0
    go_enter Tryz.func52, Tryz.ntmps52
    go_upto_region 1 with fail
    rw [HG.out, HW0.out]
    go_wp2_with (first
      | (refine wpList_load_box rfl 27 _ rfl g rfl (wkC P a) (HX0.out) _ Tryz.underlying27 rfl size_wk ?_)
      | (go_at_call 47; refine HMK.out.mono ?_; intro e w1 hR; obtain ⟨x1, x2, A1, n1, c1, rfl, hb1⟩ := retB_no hR; have bn1 := box_new w1 zeroBC 42)
      | (refine wpList_store_box rfl 42 _ _ rfl w1.heap.size 0 [.int .i64 x1, .int .i64 x2, .slice A1 n1 c1] zeroBC [.int .i64 x1, .int .i64 x2, .slice A1 n1 c1] rfl rfl bn1 (show 0 + 3 ≤ 3 by decide) rfl size_batch rfl ?_
         intro w2 bx2 T2
         have t2 := T2 (fun k => k = w1.heap.size) rfl
         have hb02 : Below w0.heap.size w0 w2 := (hb1.alloc hb1.size _).trans (t2.below (fun k hk => by have := hb1.size; omega) (by have := hb1.size; simp; omega)))
      | (refine wpList_store_box rfl 27 _ _ rfl (g + 1) 0 zeroC zeroC zeroC rfl rfl (HX1.out.below hb02 hl1) (show 0 + 9 ≤ 9 by decide) rfl size_wk rfl ?_; intro w9 bx9 T9))
    obtain ⟨r0, r1, r2, r3, r4, r5, r6, r7, r8⟩ := zero_cells bx9
    have t9 := T9 (fun k => k = g + 1) rfl
    refine bodyPost_ret (v := .tuple #[wkV zeroW zeroWA, .slice none 0 0, .int .i64 M]) (by simp [results, Tryz.results52, go_sem, r0, r1, r2, r3, r4, r5, r6, r7, r8, wkV, Ad.v, zeroW, zeroWA, noAd]) rfl ⟨zeroWA, noAd, [], by rw [HQ.out, HE.out]; rfl, by rw [HQ.out]; exact wNew_zero _ _, rowOwn_none _ _, by rw [HL.out]; rfl, fun y hy => by simp at hy, ?_⟩
    have hz9 := (hb02).size
    rw [HG.out]
    exact (HB0.out.trans (hb02.mono hgw)).trans (t9.below (fun k hk => by omega) (by omega))

end Go.Proofs.YteepobghdpnabaaGreat
namespace Go.Proofs.YteepobghdpnabaaGreat
open Go.RowKit

structure TK (B g : Nat) (m : MsgD) (am : MsgA) (wS w : World) : Prop where
 msg : Box w (g + 1) (msgC m am)
 res : Box w (g + 2) zeroC
 bel : Below g wS w
 lt : g + 2 < B
theorem TK.touch {B g : Nat} {m : MsgD} {am : MsgA} {wS w w' : World} (h : TK B g m am wS w) (ht : Touch (fun k => k = g ∨ B ≤ k) w w') : TK B g m am wS w' :=
 ⟨h.msg.touch ht (by have := h.lt; omega), h.res.touch ht (by have := h.lt; omega), h.bel.trans (ht.below (fun k hk => by have := h.lt; omega) (by have := h.msg.1; omega)), h.lt⟩
end Go.Proofs.YteepobghdpnabaaGreat
namespace Go.Proofs.YteepobghdpnabaaGreat
open Go.RowKit

set_option maxRecDepth 100000 in
set_option maxHeartbeats 16000000 in
theorem tick_no (P : WkD) (a : WkA) (w : World) (h : WIn w P a) (hf : WFew P 300000) (hmay : mayW P = false) : Calls Tryz.prog 60 #[wkV P a] w (Ret3 (orW (ifMay P 0) (tickW P)) (orO (ifMay P 0) (tickO P)) (ifMay P 0) w) := by
 obtain ⟨g, hg⟩ : ∃ g, g = w.heap.size := ⟨_, rfl⟩
 obtain ⟨wa0, hwa0⟩ : ∃ wa0, wa0 = w.alloc (.cells #[.int .i64 P.i, .int .i64 P.N, .int .i64 P.x, .slice a.O.A a.O.n a.O.c, .int .i64 P.g, .int .i64 P.c, .slice a.W.A a.W.n a.W.c, .slice a.H.A a.H.n a.H.c, .slice a.R.A a.R.n a.R.c] 27) := ⟨_, rfl⟩
 have hs0 : wa0.heap.size = g + 1 := by rw [hwa0]; simp; omega
 have bn0 : Box wa0 (g) (wkC P a) := by rw [hwa0, hg]; exact box_new w (wkC P a) 27
 have hb0 : Below g w wa0 := by rw [hwa0]; exact (Below.refl _ _).alloc (by omega) _
 obtain ⟨wa1, hwa1⟩ : ∃ wa1, wa1 = wa0.alloc (.cells #[.int .i64 0, .int .i64 0, .int .i64 0, .slice none 0 0, .int .i64 0, .int .i64 0, .slice none 0 0, .slice none 0 0, .slice none 0 0] 27) := ⟨_, rfl⟩
 have hs1 : wa1.heap.size = g + 2 := by rw [hwa1]; simp; omega
 have bn1 : Box wa1 (g + 1) (zeroC) := by rw [hwa1, ← hs0]; exact box_new wa0 (zeroC) 27
 have hb1 : Below g w wa1 := by rw [hwa1]; exact hb0.alloc (by omega) _
 have HX0 : Hid (Box wa1 (g) (wkC P a)) := (bn0.below (show Below wa0.heap.size wa0 wa1 by rw [hwa1]; exact (Below.refl _ _).alloc (Nat.le_refl _) _) (by omega))
 have HX1 : Hid (Box wa1 (g + 1) (zeroC)) := bn1
 obtain ⟨w0, hw0⟩ : ∃ w0, w0 = wa1 := ⟨_, rfl⟩
 rw [← hw0] at HX0
 rw [← hw0] at HX1
 have hsz0 : w0.heap.size = g + 2 := by rw [hw0]; exact hs1
 have hb0w : Below g w w0 := by rw [hw0]; exact hb1
 have HW0 : Hid ((w.alloc (.cells #[.int .i64 P.i, .int .i64 P.N, .int .i64 P.x, .slice a.O.A a.O.n a.O.c, .int .i64 P.g, .int .i64 P.c, .slice a.W.A a.W.n a.W.c, .slice a.H.A a.H.n a.H.c, .slice a.R.A a.R.n a.R.c] 27)).alloc (.cells #[.int .i64 0, .int .i64 0, .int .i64 0, .slice none 0 0, .int .i64 0, .int .i64 0, .slice none 0 0, .slice none 0 0, .slice none 0 0] 27) = w0) := by show (w.alloc (.cells #[.int .i64 P.i, .int .i64 P.N, .int .i64 P.x, .slice a.O.A a.O.n a.O.c, .int .i64 P.g, .int .i64 P.c, .slice a.W.A a.W.n a.W.c, .slice a.H.A a.H.n a.H.c, .slice a.R.A a.R.n a.R.c] 27)).alloc (.cells #[.int .i64 0, .int .i64 0, .int .i64 0, .slice none 0 0, .int .i64 0, .int .i64 0, .slice none 0 0, .slice none 0 0, .slice none 0 0] 27) = w0; rw [hw0, hwa1, hwa0]
 have HG : Hid (w.heap.size = g) := hg.symm
 have HS0 := Lib.hid hsz0
 have HB0 := Lib.hid hb0w
 have hl0 : g < w0.heap.size := by omega
 have hl1 : g + 1 < w0.heap.size := by omega
 have hgw : g ≤ w0.heap.size := by omega
 have hin0 := h.below' HB0.out HG.out
 have HIN : Hid (∀ wX, Below w0.heap.size w0 wX → WIn wX P a) := by show ∀ wX, _; exact fun wX hX => hin0.below hX
 have HF := Lib.hid hf
 have hcheck := check_is (mayW P) P a w0 rfl hin0 (hf.more (by decide))
 rw [hmay] at hcheck
 have HCK := Lib.hid hcheck
 have HE : Hid (ifMay P 0 = 1) := ifMay_no hmay 0
 clear hg hsz0 hb0w hw0 hwa0 hs0 bn0 hb0 hwa1 hs1 bn1 hb1
 clear hcheck hin0 h hf
 unfold wkV Ad.v
 go_enter Tryz.func60, Tryz.ntmps60
 go_upto_region 1 with fail
 rw [HG.out, HW0.out]
 go_wp2_with (first
  | (refine wpList_load_box rfl 27 _ rfl g rfl (wkC P a) (HX0.out) _ Tryz.underlying27 rfl size_wk ?_)
  | (go_at_call 18; refine HCK.out.mono ?_; rintro e w1 ⟨rfl, hb1⟩)
  | (refine wpList_store_box rfl 27 _ _ rfl (g + 1) 0 zeroC zeroC zeroC rfl rfl (HX1.out.below hb1 hl1) (show 0 + 9 ≤ 9 by decide) rfl size_wk rfl ?_; intro w9 bx9 T9))
 obtain ⟨r0, r1, r2, r3, r4, r5, r6, r7, r8⟩ := zero_cells bx9
 have t9 := T9 (fun k => k = g + 1) rfl
 refine bodyPost_ret (v := .tuple #[wkV zeroW zeroWA, .slice none 0 0, .int .i64 1]) (by simp [results, Tryz.results60, go_sem, r0, r1, r2, r3, r4, r5, r6, r7, r8, wkV, Ad.v, zeroW, zeroWA, noAd, okV]) rfl ⟨zeroWA, noAd, [], by rw [HE.out]; rfl, by rw [HE.out]; exact wNew_zero _ _, rowOwn_none _ _, by rw [HE.out]; rfl, fun y hy => by simp at hy, ?_⟩
 have hz9 := hb1.size
 rw [HG.out]
 exact (HB0.out.trans (hb1.mono hgw)).trans (t9.below (fun k hk => by omega) (by omega))

def retryK (P : WkD) (k : Nat) : List OtD := (P.W.take k).flatMap fun x => match lookH P.H x.d with
 | some y => askW P x.d y.a y.n y.L x.S
 | none => []
theorem retryK_next {P : WkD} {k : Nat} {x : WtD} (h : P.W[k]? = some x) : retryK P (k + 1) = retryK P k ++ (match lookH P.H x.d with
  | some y => askW P x.d y.a y.n y.L x.S
  | none => []) := by
 unfold retryK
 rw [take_nxt h, List.flatMap_append]
 simp
theorem retryK_all {P : WkD} {k : Nat} (h : P.W.length ≤ k) : retryK P k = retryO P := by unfold retryK retryO; rw [List.take_of_length_le h]; rfl
theorem askW_len {P : WkD} {d a n : Int} {L : List TxD} {S : List Int} (h : P.N ≤ 16) : (askW P d a n L S).length ≤ 16 := by
 unfold askW toW
 rw [List.length_map]
 refine Nat.le_trans (List.length_filter_le _ _) ?_
 rw [List.length_map, List.length_range]
 omega
theorem retry_like {P Q : WkD} (h1 : Q.W = P.W) (h2 : Q.H = P.H) (h3 : Q.i = P.i) (h4 : Q.N = P.N) : retryO Q = retryO P := by
 unfold retryO
 rw [h1, h2]
 congr 1
 funext x
 cases lookH P.H x.d with
 | none => rfl
 | some y => exact askW_like h3 h4
theorem Outs.comp {B : Nat} {w w1 w2 : World} {o o1 o2 : Ad} {ms : List (OtD × Ad)} {l l2 : List OtD} {ms' : List (OtD × Ad)} (h : Outs B w o ms l w1 o1) (hm : ms'.map Prod.fst = l) (h2 : Outs B w1 o1 (ms ++ ms') l2 w2 o2) : Outs B w o ms (l ++ l2) w2 o2 := by
 obtain ⟨m2, r1, r2⟩ := h2.row
 refine ⟨⟨ms' ++ m2, by rw [← List.append_assoc]; exact r1, by rw [List.map_append, hm, r2]⟩, h.touch.trans h2.touch (fun k hk => h.own k hk), fun k hk => ?_⟩
 rcases h2.own k hk with e | e
 ·exact h.own k e
 ·have := h.touch.size; exact .inr (by omega)

end Go.Proofs.YteepobghdpnabaaGreat
