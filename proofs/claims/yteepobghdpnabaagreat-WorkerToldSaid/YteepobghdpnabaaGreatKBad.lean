/-
 Package worker's Tick.
-/
import Derived.Test.YteepobghdpnabaaGreatKBac
import Derived.Test.YteepobghdpnabaaGreatKBab
import Derived.Test.YteepobghdpnabaaGreatKBm
namespace Go.Proofs.YteepobghdpnabaaGreat
open Go.RowKit

theorem tick_any (P : WkD) (a : WkA) (w : World) (h : WIn w P a) (hf : WFew P 300000) : Calls Tryz.prog 60 #[wkV P a] w (Ret3 (orW (ifMay P 0) (tickW P)) (orO (ifMay P 0) (tickO P)) (ifMay P 0) w) := by
 cases hm : mayW P with
 | false => exact tick_no P a w h hf hm
 | true =>
  by_cases hr : min (P.c + 1) 1099511627776 % 3 = 0
  ·exact tick_L P a w h hf hm hr
  ·exact tick_Q P a w h hf hm hr

end Go.Proofs.YteepobghdpnabaaGreat
namespace Go.Proofs.YteepobghdpnabaaGreat
open Go.RowKit

set_option maxRecDepth 100000 in
set_option maxHeartbeats 16000000 in
theorem sealed_yes (P : WkD) (a : WkA) (d : Int) (w : World) (h : WIn w P a) (hf : WFew P 300000) (hok : ifMay P (sealE P d) = 0) : Calls Tryz.prog 52 #[wkV P a, .int .i64 d] w (Ret3 (orW (ifMay P (sealE P d)) (sealW P d)) (orO (ifMay P (sealE P d)) (sealO P d)) (ifMay P (sealE P d)) w) := by
  obtain ⟨g, hg⟩ : ∃ g, g = w.heap.size := ⟨_, rfl⟩
  obtain ⟨wa0, hwa0⟩ : ∃ wa0, wa0 = w.alloc (.cells #[.int .i64 P.i, .int .i64 P.N, .int .i64 P.x, .slice a.O.A a.O.n a.O.c, .int .i64 P.g, .int .i64 P.c, .slice a.W.A a.W.n a.W.c, .slice a.H.A a.H.n a.H.c, .slice a.R.A a.R.n a.R.c] 27) := ⟨_, rfl⟩
  have hs0 : wa0.heap.size = g + 1 := by rw [hwa0]; simp; omega
  have bn0 : Box wa0 (g) (wkC P a) := by rw [hwa0, hg]; exact box_new w (wkC P a) 27
  have hb0 : Below g w wa0 := by rw [hwa0]; exact (Below.refl _ _).alloc (by omega) _
  obtain ⟨wa1, hwa1⟩ : ∃ wa1, wa1 = wa0.alloc (.cells #[.int .i64 0, .int .i64 0, .int .i64 0, .slice none 0 0, .int .i64 0, .int .i64 0, .slice none 0 0, .slice none 0 0, .slice none 0 0] 27) := ⟨_, rfl⟩
  have hs1 : wa1.heap.size = g + 2 := by rw [hwa1]; simp; omega
  have bn1 : Box wa1 (g + 1) (zeroC) := by rw [hwa1, ← hs0]; exact box_new wa0 (zeroC) 27
  have hb1 : Below g w wa1 := by rw [hwa1]; exact hb0.alloc (by omega) _
  have HX0 : Hid (Box wa1 (g) (wkC P a)) := (bn0.below (show Below wa0.heap.size wa0 wa1 by rw [hwa1]; exact (Below.refl _ _).alloc (Nat.le_refl _) _) (by omega))
  have HX1 : Hid (Box wa1 (g + 1) (zeroC)) := bn1
  obtain ⟨w0, hw0⟩ : ∃ w0, w0 = wa1 := ⟨_, rfl⟩
  rw [← hw0] at HX0
  rw [← hw0] at HX1
  have hsz0 : w0.heap.size = g + 2 := by rw [hw0]; exact hs1
  have hb0w : Below g w w0 := by rw [hw0]; exact hb1
  have HW0 : Hid ((w.alloc (.cells #[.int .i64 P.i, .int .i64 P.N, .int .i64 P.x, .slice a.O.A a.O.n a.O.c, .int .i64 P.g, .int .i64 P.c, .slice a.W.A a.W.n a.W.c, .slice a.H.A a.H.n a.H.c, .slice a.R.A a.R.n a.R.c] 27)).alloc (.cells #[.int .i64 0, .int .i64 0, .int .i64 0, .slice none 0 0, .int .i64 0, .int .i64 0, .slice none 0 0, .slice none 0 0, .slice none 0 0] 27) = w0) := by show (w.alloc (.cells #[.int .i64 P.i, .int .i64 P.N, .int .i64 P.x, .slice a.O.A a.O.n a.O.c, .int .i64 P.g, .int .i64 P.c, .slice a.W.A a.W.n a.W.c, .slice a.H.A a.H.n a.H.c, .slice a.R.A a.R.n a.R.c] 27)).alloc (.cells #[.int .i64 0, .int .i64 0, .int .i64 0, .slice none 0 0, .int .i64 0, .int .i64 0, .slice none 0 0, .slice none 0 0, .slice none 0 0] 27) = w0; rw [hw0, hwa1, hwa0]
  have HG : Hid (w.heap.size = g) := hg.symm
  have HS0 := Lib.hid hsz0
  have HB0 := Lib.hid hb0w
  have hl0 : g < w0.heap.size := by omega
  have hl1 : g + 1 < w0.heap.size := by omega
  have hgw : g ≤ w0.heap.size := by omega
  have hin0 := h.below' HB0.out HG.out
  have hmake := make_any P a w0 hin0 (hf.more (by decide))
  have HIN : Hid (∀ wX, Below w0.heap.size w0 wX → WIn wX P a) := by show ∀ wX, _; exact fun wX hX => hin0.below hX
  have HF := Lib.hid hf
  obtain ⟨hmay, hse⟩ := ifMay_zero hok
  have hmw := mayW_iff.1 hmay
  have hmk : makeE P = 0 := by
    unfold sealE at hse
    split at hse
    · exact hse
    · rename_i h1; simpa using h1
  have hdb : digB d = true := by
    rw [sealE, if_neg (by rw [hmk]; decide)] at hse
    cases hq : digB d with
    | true => rfl
    | false => rw [hq] at hse; simp at hse
  have hd : d ∉ P.hs := fun hq => by
    rw [sealE, if_neg (by rw [hmk]; decide), hdb, if_pos rfl, if_pos hq] at hse
    omega
  have hdue : dueW P = true := by
    unfold makeE at hmk
    split at hmk
    · assumption
    · omega
  rw [ifMay_yes hmay, hmk] at hmake
  rw [hok]
  have HMK := Lib.hid hmake
  have HDB := Lib.hid hdb
  have hrise := hmw.hrise
  have HFD : Hid (∀ wX, Below w0.heap.size w0 wX → Calls Tryz.prog 89 #[wkV P a, .int .i64 d] wX fun e w' => e = .returned (.tuple #[.int .i64 (posI P.hs d), .bool false]) ∧ Below wX.heap.size wX w') := by
    show ∀ wX, _
    intro wX hX
    have hw := HIN.out wX hX
    have := findHeld_any P a d wX hw.held hw.eH (by have := HF.out.h; omega) hrise
    rw [decide_eq_false hd] at this
    exact this
  obtain ⟨pH, hpH⟩ : ∃ p, p = posI P.hs d := ⟨_, rfl⟩
  rw [← hpH] at HFD
  have HFEW := Lib.hid (seal_few hmw hf hdb)
  have HMW := Lib.hid hmw
  have hx1 := hmw.next.1
  have hx2 : P.x < 1099511627776 := by
    unfold dueW at hdue
    simp only [decide_eq_true_eq] at hdue
    exact hdue.2
  have hOn : 0 < P.O.length := by
    unfold dueW at hdue
    simp only [decide_eq_true_eq] at hdue
    omega
  have hO64 := hmw.few
  have HN16 : Hid (0 ≤ P.N ∧ P.N ≤ 16) := by have := may_yes hmw.may; show _ ∧ _; omega
  obtain ⟨j, hj8⟩ : ∃ j, (makeL P).length = j := ⟨_, rfl⟩
  have HJ := Lib.hid hj8
  have hjO : 1 ≤ j ∧ j ≤ P.O.length ∧ j ≤ 8 := by unfold makeL at hj8; rw [List.length_take] at hj8; omega
  have HDROP : Hid (P.O.drop j = P.O.drop 8) := by
    show _ = _
    unfold makeL at hj8
    rw [List.length_take] at hj8
    rcases Nat.le_total 8 P.O.length with h8 | h8
    · rw [show j = 8 by omega]
    · rw [List.drop_eq_nil_of_le (by omega), List.drop_eq_nil_of_le h8]
  obtain ⟨nO, hnO⟩ : ∃ n, n = P.O.length := ⟨_, rfl⟩
  rw [← hnO] at hOn hO64 hjO
  have HNO := Lib.hid hnO
  obtain ⟨P3, hP3⟩ : ∃ P3, P3 = sealM P d := ⟨_, rfl⟩
  have HP3 := Lib.hid hP3
  rw [← hP3] at HFEW
  have HQ : Hid (orW 0 (sealW P d) = settleW P3) := by show _ = _; rw [hP3]; rfl
  have HL : Hid (orO 0 (sealO P d) = askW P3 d P.i P.x (makeL P) []) := by show _ = _; rw [askW_like (P := P) HFEW.out.1 HFEW.out.2.1]; rfl
  clear hg hsz0 hb0w hw0 hwa0 hs0 bn0 hb0 hwa1 hs1 bn1 hb1
  clear hmake hin0 h hmay hse hmw hmk hdb hd hdue hrise hpH hj8 hf hok hnO hP3
  unfold wkV Ad.v
  go_enter Tryz.func52, Tryz.ntmps52
  go_upto_region 1 with fail
  rw [HG.out, HW0.out]
  go_upto_region 10 with (first
    | (refine wpList_load_box rfl 27 _ rfl g rfl (wkC P a) (HX0.out) _ Tryz.underlying27 rfl size_wk ?_)
    | (go_at_call 47; refine HMK.out.mono ?_; intro e w1 hR; obtain ⟨A1, n1, c1, rfl, ho1, hn1, hb1⟩ := retB_yes hR; obtain rfl : j = n1 := HJ.out.symm.trans hn1; have bn1 := box_new w1 zeroBC 42)
    | (refine wpList_store_box rfl 42 _ _ rfl w1.heap.size 0 [.int .i64 P.i, .int .i64 P.x, .slice A1 j c1] zeroBC [.int .i64 P.i, .int .i64 P.x, .slice A1 j c1] rfl rfl bn1 (show 0 + 3 ≤ 3 by decide) rfl size_batch rfl ?_
       intro w2 bx2 T2
       have t2 := T2 (fun k => k = w1.heap.size) rfl
       have hb02 : Below w0.heap.size w0 w2 := (hb1.alloc hb1.size _).trans (t2.below (fun k hk => by have := hb1.size; omega) (by have := hb1.size; simp; omega)))
    | (go_at_call 41; refine (zdig_is true d HDB.out _).mono ?_; rintro e w2' ⟨rfl, rfl⟩)
    | (refine wpList_load_box rfl 27 _ rfl g rfl (wkC P a) (HX0.out.below hb02 hl0) _ Tryz.underlying27 rfl size_wk ?_)
    | (go_at_call 89; refine (HFD.out _ hb02).mono ?_; rintro e w3 ⟨rfl, hb3⟩; have hb03 : Below w0.heap.size w0 w3 := hb02.trans (hb3.mono hb02.size))
    | (refine wpList_load_box rfl 27 _ rfl g rfl (wkC P a) (HX0.out.below hb03 hl0) _ Tryz.underlying27 rfl size_wk ?_)
    | (go_at_call 90; refine (clone_any P a w3 (HIN.out _ hb03) (HF.out.more (by decide))).mono ?_; rintro e w4 ⟨a4, rfl, hn4, hb4⟩)
    | (refine wpList_store_box rfl 27 _ _ rfl g 0 (wkC P a4) (wkC P a) (wkC P a4) rfl rfl ((HX0.out.below hb03 hl0).below hb4 (by have := hb03.size; omega)) (show 0 + 9 ≤ 9 by decide) rfl size_wk rfl ?_; intro w5 bx5 T5))
  have hz1 := hb1.size
  have hz3 := hb03.size
  have t5 := T5 (fun k => k = g) rfl
  have HBN : Hid (Below g w w5) := ((HB0.out.trans (hb03.mono hgw)).trans (hb4.mono (by omega))).trans (t5.below (fun k hk => by omega) (by have := hb4.size; omega))
  have hq3 : w1.heap.size < w3.heap.size := by have := bx2.1; have := hb3.size; omega
  have hAT5 : WAt w3.heap.size g w5 P a4 := ⟨bx5, hn4.touch t5 (fun k hk ho => by have := (hn4.core.lt ho).2; omega) (fun k hk ho => by have := (own_lt hn4.open_ ho).2; omega), by omega, by have := hb4.size; have := t5.size; omega⟩
  have hSK5 : SK w3.heap.size g w1.heap.size [.int .i64 P.i, .int .i64 P.x, .slice A1 j c1] ⟨A1, j, c1⟩ (makeL P) w5 := by
    have hsl1 : SlIn w1 ⟨A1, j, c1⟩ (makeL P).length (txs (makeL P)) := slIn_own (a := ⟨A1, j, c1⟩) ho1 HJ.out
    have hb13 : Below w1.heap.size w1 w3 := ((((Below.refl _ _).alloc (Nat.le_refl _) _).trans (t2.below (fun k hk => by omega) (by simp))).trans (hb3.mono (by have := bx2.1; omega)))
    have hat : ∀ x, A1 = some x → x.block ≠ g ∧ x.block < w3.heap.size := fun x hx => by
      have := own_lt ho1 (g := x.block) (by rw [hx]; rfl)
      omega
    refine ⟨((HX1.out.below hb03 hl1).below hb4 (by omega)).touch t5 (by omega), ((bx2.below hb3 bx2.1).below hb4 (by have := bx2.1; have := hb3.size; omega)).touch t5 (by omega), ((hsl1.below hb13).below hb4).touch t5 (fun x hx => (hat x hx).1), by omega, hat⟩
  obtain ⟨B, hB⟩ : ∃ B, B = w3.heap.size := ⟨_, rfl⟩
  obtain ⟨q, hq⟩ : ∃ q, q = w1.heap.size := ⟨_, rfl⟩
  rw [← hB] at hAT5
  rw [← hB, ← hq] at hSK5
  rw [← hq]
  have HAT5 := Lib.hid hAT5
  have HSK5 := Lib.hid hSK5
  obtain ⟨go, cO, hvO, hBo, hgo⟩ := hAT5.new.open_.form (by have := hAT5.new.oL; have := HNO.out; omega)
  have hoL5 : a4.O.n = nO := by have := hAT5.new.oL; have := HNO.out; omega
  obtain ⟨m, hm⟩ : ∃ m, nO = m + j := ⟨nO - j, by omega⟩
  have eO4 : a4.O = ⟨some ⟨go, 0, none⟩, m + j, cO⟩ := by
    obtain ⟨O4, W4, H4, R4, ms4, hs4⟩ := a4
    obtain ⟨OA, On, Oc⟩ := O4
    simp only [Ad.v, Value.slice.injEq, true_and] at hvO hoL5 ⊢
    simp only [Ad.mk.injEq]
    exact ⟨hvO.1, by omega, hvO.2⟩
  have hO5 : w5.ownsRow B 40 4 (.slice (some ⟨go, 0, none⟩) (m + j) cO) (m + j) (txs P.O) := by
    have := hAT5.new.open_
    rw [eO4] at this
    exact this
  have k3 : w5.cell? ⟨g, 3, none⟩ = some (.slice (some ⟨go, 0, none⟩) (m + j) cO) := by
    have := (hAT5.box.2 3 _ rfl).1
    rw [eO4] at this
    exact this
  have kq2 : w5.cell? ⟨q, 2, none⟩ = some (.slice A1 j c1) := (hSK5.bat.2 2 _ rfl).1
  have HO5 := Lib.hid hO5
  have HEO := Lib.hid eO4
  have hgB := hAT5.lt
  have hB5 := hAT5.le
  have hgq := hSK5.lt
  have hTXO := txs_one P.O
  clear hAT5 hSK5 hvO hoL5 eO4 hO5 hn4 hb4 ho1 hn1 bn1 t2 T2 bx2 hb1 hb02 hb3 hb03 T5 t5 hz1 hz3 hq3 hB hq
  have HXB := Lib.hid bx5
  clear bx5
  go_upto_region 13 with (first
    | (go_at_call 91
       refine (deleteT_any B go cO m j (txs P.O) w5 HO5.out hjO.1 (by omega) hTXO).mono ?_
       rintro e w6 ⟨rfl, ho6, hg6⟩
       have t6 : Touch (fun k => k = go) w5 w6 := Touch.grown hg6 fun k hk => by cases hk; rfl
       have hgog : go ≠ g := by omega
       have bx6 : Box w6 g (wkC P a4) := HXB.out.touch t6 (fun hq => hgog hq.symm))
    | (refine wpList_store_cell rfl 22 _ _ rfl g 3 (.slice (some ⟨go, 0, none⟩) m cO) (wkC P a4) rfl rfl rfl rfl bx6 (show 3 < 9 by decide) size_sTx ?_
       intro w7 bx7 T7
       have k2 : w7.cell? ⟨g, 2, none⟩ = some (.int .i64 P.x) := (bx7.2 2 _ rfl).1)
    | (refine wpList_store_cell rfl 3 _ _ rfl g 2 (.int .i64 (P.x + 1)) _ rfl rfl rfl rfl bx7 (show 2 < 9 by decide) size_int ?_
       intro w8 bx8 T8)
    | (refine wpList_store_cell rfl 3 _ _ rfl g 4 (.int .i64 0) _ rfl rfl rfl rfl bx8 (show 4 < 9 by decide) size_int ?_
       intro w9 bx9 T9))
  have t7 := T7 (fun k => k = g) rfl
  have t8 := T8 (fun k => k = g) rfl
  have t9 := T9 (fun k => k = g) rfl
  have hT9 : Touch (fun k => k = g ∨ B ≤ k) w5 w9 := (((t6.mono fun k hk => .inr (by omega)).on (t7.mono fun k hk => .inl hk)).on (t8.mono fun k hk => .inl hk)).on (t9.mono fun k hk => .inl hk)
  have hSK9 := HSK5.out.touch hT9
  obtain ⟨P1, hP1⟩ : ∃ P1 : WkD, P1 = { P with O := P.O.drop 8, x := P.x + 1, g := 0 } := ⟨_, rfl⟩
  obtain ⟨a9, ha9⟩ : ∃ a9 : WkA, a9 = { a4 with O := ⟨some ⟨go, 0, none⟩, m, cO⟩ } := ⟨_, rfl⟩
  have hdl : (P.O.drop 8).length = m := by rw [← HDROP.out, List.length_drop]; have := HNO.out; omega
  have hAT9 : WAt B g w9 P1 a9 := by
    have n6 := HAT5.out.new.setO (L := P.O.drop 8) (o := ⟨some ⟨go, 0, none⟩, m, cO⟩) (w' := w6) (t6.mono fun k hk => by rw [HEO.out, hk]; rfl) (by rw [← HDROP.out, ← txs_drop _ _ (by have := HNO.out; omega)]; exact ho6) hdl (fun k hk => .inl (by rw [HEO.out]; exact hk))
    have far : ∀ {F : Nat → Prop} {wa wb : World}, WNew B wa { P with O := P.O.drop 8 } { a4 with O := ⟨some ⟨go, 0, none⟩, m, cO⟩ } → Touch (fun k => k = g) wa wb → WNew B wb { P with O := P.O.drop 8 } { a4 with O := ⟨some ⟨go, 0, none⟩, m, cO⟩ } := fun h1 ht => h1.touch ht (fun k hk ho => by have := (h1.core.lt ho).2; omega) (fun k hk ho => by have := (own_lt h1.open_ ho).2; omega)
    have n9 := (far (F := fun _ => False) (far (F := fun _ => False) (far (F := fun _ => False) n6 t7) t8) t9).nums (P.x + 1) 0 P.c
    refine ⟨by rw [hP1, ha9]; exact bx9, by rw [hP1, ha9]; exact n9, hgB, by have := hT9.size; omega⟩
  have h1H : P1.H = P.H := by rw [hP1]
  have h1W : P1.W = P.W := by rw [hP1]
  have h1hs : P1.hs = P.hs := by rw [WkD.hs, h1H]; rfl
  obtain ⟨P2, hP2⟩ : ∃ P2, P2 = holdW P1 d P.i P.x (makeL P) := ⟨_, rfl⟩
  have h3 : P3 = waitW P2 d := by rw [HP3.out, hP2, hP1]; rfl
  have hhold := hold_any B g P1 a9 d P.i P.x ⟨A1, j, c1⟩ (makeL P) w9 hAT9 hSK9.sl (by have := HJ.out; omega) (by rw [h1hs]; exact HMW.out.hrise) (by rw [h1H]; have := HMW.out.room; omega)
  rw [← hP2] at hhold
  have hsame := holdW_same (P := P1) (d := d) (a := P.i) (n := P.x) (L := makeL P)
  rw [← hP2] at hsame
  have h2i : P2.i = P.i := by rw [hsame.1, hP1]
  have h2W : P2.W = P.W := by rw [hsame.2.2.1, h1W]
  have h2ds : P2.ds = P.ds := by rw [WkD.ds, h2W]; rfl
  have hfw : ∀ b : Bool, b = decide (d ∈ P2.ds) → ∀ (aX : WkA) (wX : World), WAt B g wX P2 aX → Calls Tryz.prog 93 #[wkV P2 aX, .int .i64 d] wX fun e w' => e = .returned (.tuple #[.int .i64 (posI P2.ds d), .bool b]) ∧ Below wX.heap.size wX w' := by
    intro b hb aX wX hX
    have := findWait_any P2 aX d wX hX.new.in_.waits hX.new.core.eW (by rw [h2W]; have := HF.out.w; omega) (by rw [h2ds]; exact HMW.out.drise)
    rw [← hb] at this
    exact this
  obtain ⟨pW, hpW⟩ : ∃ p, p = posI P2.ds d := ⟨_, rfl⟩
  rw [← hpW] at hfw
  have hpl : pW ≤ P2.W.length := by rw [hpW]; have := posI_le P2.ds d; simpa [WkD.ds] using this
  have HFW := Lib.hid hfw
  have HHO := Lib.hid hhold
  have HSK9 := Lib.hid hSK9
  have HT9 := Lib.hid hT9
  have H3 := Lib.hid h3
  have HPW := Lib.hid hpW
  have HWL : Hid (P2.W.length ≤ 300000) := by show _ ≤ _; rw [h2W]; exact HF.out.w
  have HI2 := Lib.hid h2i
  clear hfw hhold hSK9 hT9 h3 hpW hsame h1H h1W h1hs h2W h2ds hP2 hdl hAT9 hP1 ha9 bx9 bx8 bx7 bx6 T7 T8 T9 t6 t7 t8 t9 ho6 hg6 HO5 HEO HXB h2i
  by_cases hdw : d ∈ P2.ds
  · have HB1 : Hid (true = decide (d ∈ P2.ds)) := (decide_eq_true hdw).symm
    have H32 : Hid (P3 = P2) := by show _ = _; rw [H3.out, waitW, if_pos hdw]
    clear hdw
    go_upto_region 17 with (first
      | (refine wpList_load_box rfl 42 _ rfl q rfl [.int .i64 P.i, .int .i64 P.x, .slice A1 j c1] HSK9.out.bat _ Tryz.underlying42 rfl size_batch ?_)
      | (go_at_call 92; refine HHO.out.mono ?_; rintro e w10 ⟨a10, rfl, hAT10, hT10⟩)
      | (refine wpList_load_box rfl 27 _ rfl g rfl (wkC P2 a10) (hAT10.box) _ Tryz.underlying27 rfl size_wk ?_)
      | (go_at_call 93; refine (HFW.out _ HB1.out a10 w10 hAT10).mono ?_; rintro e w11 ⟨rfl, hb11⟩))
    have hATX : WAt B g w11 P3 a10 := by rw [H32.out]; exact hAT10.below hb11
    have hTX : Touch (fun k => k = g ∨ B ≤ k) w5 w11 := (HT9.out.on hT10).on (Touch.of hb11)
    have hSKX := (HSK9.out.touch hT10).touch (Touch.of hb11)
    clear hAT10 hb11 hT10
    have HATX := Lib.hid hATX
    have HSKX := Lib.hid hSKX
    have HTX := Lib.hid hTX
    clear hATX hSKX hTX
    have hgX : g < w11.heap.size := HATX.out.box.1
    obtain ⟨P4, hP4⟩ : ∃ P4, P4 = settleW P3 := ⟨_, rfl⟩
    have HP4 := Lib.hid hP4
    have HST : Hid (∀ wY, WAt B g wY P3 a10 → Calls Tryz.prog 96 #[.pointer (some ⟨g, 0, none⟩)] wY fun e w' => ∃ a', e = .returned (.tuple #[]) ∧ WAt B g w' P4 a' ∧ Touch (fun k => k = g ∨ a10.R.v.ownBlock = some k) wY w' ∧ a'.O = a10.O ∧ a'.hs = a10.hs) := by
      show ∀ wY, _
      rw [hP4]
      exact fun wY hY => settle_any B g P3 a10 wY hY (by rw [HFEW.out.2.1]; exact HMW.out.may) HFEW.out.2.2.1 HFEW.out.2.2.2
    clear hP4
    go_wp2_with (first
      | (refine wpList_load_box rfl 27 _ rfl g rfl (wkC P3 a10) (HATX.out.box) _ Tryz.underlying27 rfl size_wk ?_)
      | (refine wpList_load_box rfl 42 _ rfl q rfl [.int .i64 P.i, .int .i64 P.x, .slice A1 j c1] HSKX.out.bat _ Tryz.underlying42 rfl size_batch ?_)
      | (go_at_call 95
         refine (ask_any w11.heap.size P3 a10 d P.i P.x ⟨A1, j, c1⟩ (makeL P) noAd [] noAd [] w11 (by rw [HFEW.out.2.1]; exact HN16.out) (by have := HJ.out; omega) (by simp) (fun wY hY => ⟨HSKX.out.sl.touch hY (fun x hx hf => by simp [noAd, Ad.v, Value.ownBlock] at hf), slIn_none wY⟩) (rowOwn_none _ _) (by simp) (Nat.le_refl _)).mono ?_
         rintro e wY ⟨⟨Ao, no, co⟩, rfl, hOut⟩
         dsimp only [Ad.v]
         have hbY : Below w11.heap.size w11 wY := hOut.touch.below (fun k hk => by simp [noAd, Ad.v, Value.ownBlock] at hk) (Nat.le_refl _))
      | (go_at_call 96
         refine (HST.out wY (HATX.out.below hbY)).mono ?_
         rintro e wZ ⟨aZ, rfl, hATZ, hTZ, hZO, hZH⟩)
      | (refine wpList_load_box rfl 27 _ rfl g rfl (wkC P4 aZ) (hATZ.box) _ Tryz.underlying27 rfl size_wk ?_)
      | (refine wpList_store_box rfl 27 _ _ rfl (g + 1) 0 (wkC P4 aZ) zeroC (wkC P4 aZ) rfl rfl ((HSKX.out.res.below hbY HSKX.out.res.1).touch hTZ (fun hf => by
          rcases hf with hf | hf
          · omega
          · have := (own_lt HATX.out.new.core.ready hf).2; omega)) (show 0 + 9 ≤ 9 by decide) rfl size_wk rfl ?_; intro wE bxE TE))
    have tE := TE (fun k => k = g + 1) rfl
    obtain ⟨ms', hrow, hms⟩ := hOut.row
    rw [List.nil_append] at hrow
    have hsY := hbY.size
    have hsZ := hTZ.size
    have hbx : B ≤ w11.heap.size := HATX.out.le
    have hR : ∀ k, a10.R.v.ownBlock = some k → B ≤ k ∧ k < w11.heap.size := fun k hk => ⟨(own_lt HATX.out.new.core.ready hk).2, (own_lt HATX.out.new.core.ready hk).1⟩
    have hfar : ∀ y ∈ ms', ∀ k, y.2.v.ownBlock = some k → w11.heap.size ≤ k := fun y hy k hk => (own_lt (hrow.sub y hy).1 hk).2
    have hrow2 := (hrow.touch hTZ (fun k hk hf => by
      have := (own_lt hrow.row hk).2
      rcases hf with hf | hf
      · omega
      · have := hR k hf; omega) (fun y hy k hk hf => by
      have := hfar y hy k hk
      rcases hf with hf | hf
      · omega
      · have := hR k hf; omega)).touch tE (fun k hk hf => by have := (own_lt hrow.row hk).2; omega) (fun y hy k hk hf => by have := hfar y hy k hk; omega)
    have hTe : Touch (fun k => k = g ∨ B ≤ k) w5 wZ := (HTX.out.on (Touch.of hbY)).on (hTZ.mono fun k hk => hk.imp id fun h => (hR k h).1)
    have hbel : Below g w wE := (HBN.out.trans (hTe.below (fun k hk => by omega) (by omega))).trans (tE.below (fun k hk => by omega) (by omega))
    obtain ⟨r0, r1, r2, r3, r4, r5, r6, r7, r8⟩ := wk_cells bxE
    refine bodyPost_ret (v := .tuple #[wkV P4 aZ, .slice Ao no co, .int .i64 0]) (by simp [results, Tryz.results52, go_sem, r0, r1, r2, r3, r4, r5, r6, r7, r8, wkV, Ad.v]) rfl ⟨aZ, ⟨Ao, no, co⟩, ms', by rw [HQ.out, HP4.out]; rfl, ?_, hrow2.more (by rw [HG.out]; omega), by rw [HL.out]; exact hms, fun y hy k hk => ⟨fun ho => ?_, fun z hz ho => ?_⟩, by rw [HG.out]; exact hbel⟩
    · rw [HQ.out, HG.out, ← HP4.out]
      exact (hATZ.new.touch tE (fun k hk ho => by have := (hATZ.new.core.lt ho).2; omega) (fun k hk ho => by have := (own_lt hATZ.new.open_ ho).2; omega)).more (by omega)
    · rw [hZO] at ho
      have := (own_lt HATX.out.new.open_ ho).1
      have := hfar y hy k hk
      omega
    · rw [hZH] at hz
      have := (own_lt (HATX.out.new.core.held.sub z hz).1 ho).1
      have := hfar y hy k hk
      omega

  · have HB1 : Hid (false = decide (d ∈ P2.ds)) := (decide_eq_false hdw).symm
    have H32 : Hid (P3 = { P2 with W := insAt P2.W pW ⟨d, [P.i]⟩ }) := by show _ = _; rw [H3.out, waitW, if_neg hdw, HPW.out, HI2.out]
    clear hdw
    go_upto_region 16 with (first
      | (refine wpList_load_box rfl 42 _ rfl q rfl [.int .i64 P.i, .int .i64 P.x, .slice A1 j c1] HSK9.out.bat _ Tryz.underlying42 rfl size_batch ?_)
      | (go_at_call 92; refine HHO.out.mono ?_; rintro e w10 ⟨a10, rfl, hAT10, hT10⟩)
      | (refine wpList_load_box rfl 27 _ rfl g rfl (wkC P2 a10) (hAT10.box) _ Tryz.underlying27 rfl size_wk ?_)
      | (go_at_call 93; refine (HFW.out _ HB1.out a10 w10 hAT10).mono ?_; rintro e w11 ⟨rfl, hb11⟩))
    have hAT11 := hAT10.below hb11
    have hT11 : Touch (fun k => k = g ∨ B ≤ k) w5 w11 := (HT9.out.on hT10).on (Touch.of hb11)
    have hSK11 := (HSK9.out.touch hT10).touch (Touch.of hb11)
    have HAT11 := Lib.hid hAT11
    have k6 : w11.cell? ⟨g, 6, none⟩ = some (.slice a10.W.A a10.W.n a10.W.c) := (hAT11.box.2 6 _ rfl).1
    have k0 : w11.cell? ⟨g, 0, none⟩ = some (.int .i64 P2.i) := (hAT11.box.2 0 _ rfl).1
    have hnW : P2.W.length = a10.W.n := by rw [← hAT11.new.core.eW, List.length_map]; exact hAT11.new.core.waits.len
    have hpn : pW ≤ a10.W.n := by omega
    have hWn : a10.W.n ≤ 300000 := by have := HWL.out; omega
    have hle := hAT11.le
    have hgl : g < w11.heap.size := hAT11.box.1
    have HOLT : Hid (∀ k, a10.W.v.ownBlock = some k → B ≤ k ∧ k < w11.heap.size) := by show ∀ k, _; exact fun k hk => ⟨(own_lt hAT11.new.core.waits.row hk).2, (own_lt hAT11.new.core.waits.row hk).1⟩
    have HSK11 := Lib.hid hSK11
    have HT11 := Lib.hid hT11
    clear hAT10 hb11 hT10 hAT11 hT11 hSK11 hnW
    obtain ⟨wI, hwI⟩ : ∃ wI, wI = w11.alloc (.cells #[.int .i64 P2.i] 3) := ⟨_, rfl⟩
    have hbI : Below w11.heap.size w11 wI := by rw [hwI]; exact (Below.refl _ _).alloc (Nat.le_refl _) _
    have hoI : wI.ownsRow w11.heap.size 3 1 (.slice (some ⟨w11.heap.size, 0, none⟩) 1 1) 1 (i64s [P.i]) := by rw [hwI, HI2.out]; exact ownS_new w11 _ 3 1 1 [.int .i64 P.i] rfl (by decide) (Nat.le_refl _)
    have hsI : wI.heap.size = w11.heap.size + 1 := by rw [hwI]; simp
    have HWI := Lib.hid hwI
    clear hwI
    go_upto_region 17 with (first
      | (go_at_call 94
         rw [← HWI.out]
         refine (insert_anyW B (w11.heap.size + 1) a10.W.n pW (.slice a10.W.A a10.W.n a10.W.c) (cellsK KW a10.ms) [.int .i64 d, .slice (some ⟨w11.heap.size, 0, none⟩) 1 1] _ (ownS_below HAT11.out.new.core.waits.row (hbI.alloc hbI.size _)) (by simp; omega) hpn (by omega) (cellsK_oneCell KW _) rfl (by rw [← hsI]; exact heap_alloc_new _ _) (KW.one ⟨d, []⟩ (.slice (some ⟨w11.heap.size, 0, none⟩) 1 1) rfl) (fun hq => by have := (HOLT.out _ hq).2; omega)).mono ?_
         rintro e w12 ⟨v4, rfl, hown, hgr, -⟩
         obtain ⟨A4, c4, rfl, _⟩ := ownS_slice hown
         have bx12 : Box w12 g (wkC P2 a10) := (HAT11.out.box.below (hbI.alloc hbI.size _) hgl).touch (Touch.grown hgr fun k hk => hk) (fun hq => by have := (HOLT.out g hq).1; omega))
      | (refine wpList_store_cell rfl 23 _ _ rfl g 6 (.slice A4 (a10.W.n + 1) c4) (wkC P2 a10) rfl rfl rfl rfl bx12 (show 6 < 9 by decide) size_sWait ?_
         intro w13 bx13 T13))
    have t13 := T13 (fun k => k = g) rfl
    have hend := wait_end (o' := ⟨some ⟨w11.heap.size, 0, none⟩, 1, 1⟩) (o4 := ⟨A4, a10.W.n + 1, c4⟩) (S := [P.i]) HAT11.out hbI hoI rfl hown rfl hgr hpn bx13 t13
    obtain ⟨a13, ha13⟩ : ∃ a13 : WkA, a13 = { a10 with W := ⟨A4, a10.W.n + 1, c4⟩, ms := insAt a10.ms pW (⟨d, [P.i]⟩, ⟨some ⟨w11.heap.size, 0, none⟩, 1, 1⟩) } := ⟨_, rfl⟩
    rw [← ha13, ← H32.out] at hend
    have hATX : WAt B g w13 P3 a13 := hend.1
    have hTX : Touch (fun k => k = g ∨ B ≤ k) w5 w13 := HT11.out.on hend.2
    have hSKX := HSK11.out.touch hend.2
    clear hend t13 T13 bx13 bx12 hgr hown hoI hbI ha13 k0 k6
    have HATX := Lib.hid hATX
    have HSKX := Lib.hid hSKX
    have HTX := Lib.hid hTX
    clear hATX hSKX hTX
    have hgX : g < w13.heap.size := HATX.out.box.1
    obtain ⟨P4, hP4⟩ : ∃ P4, P4 = settleW P3 := ⟨_, rfl⟩
    have HP4 := Lib.hid hP4
    have HST : Hid (∀ wY, WAt B g wY P3 a13 → Calls Tryz.prog 96 #[.pointer (some ⟨g, 0, none⟩)] wY fun e w' => ∃ a', e = .returned (.tuple #[]) ∧ WAt B g w' P4 a' ∧ Touch (fun k => k = g ∨ a13.R.v.ownBlock = some k) wY w' ∧ a'.O = a13.O ∧ a'.hs = a13.hs) := by
      show ∀ wY, _
      rw [hP4]
      exact fun wY hY => settle_any B g P3 a13 wY hY (by rw [HFEW.out.2.1]; exact HMW.out.may) HFEW.out.2.2.1 HFEW.out.2.2.2
    clear hP4
    go_wp2_with (first
      | (refine wpList_load_box rfl 27 _ rfl g rfl (wkC P3 a13) (HATX.out.box) _ Tryz.underlying27 rfl size_wk ?_)
      | (refine wpList_load_box rfl 42 _ rfl q rfl [.int .i64 P.i, .int .i64 P.x, .slice A1 j c1] HSKX.out.bat _ Tryz.underlying42 rfl size_batch ?_)
      | (go_at_call 95
         refine (ask_any w13.heap.size P3 a13 d P.i P.x ⟨A1, j, c1⟩ (makeL P) noAd [] noAd [] w13 (by rw [HFEW.out.2.1]; exact HN16.out) (by have := HJ.out; omega) (by simp) (fun wY hY => ⟨HSKX.out.sl.touch hY (fun x hx hf => by simp [noAd, Ad.v, Value.ownBlock] at hf), slIn_none wY⟩) (rowOwn_none _ _) (by simp) (Nat.le_refl _)).mono ?_
         rintro e wY ⟨⟨Ao, no, co⟩, rfl, hOut⟩
         dsimp only [Ad.v]
         have hbY : Below w13.heap.size w13 wY := hOut.touch.below (fun k hk => by simp [noAd, Ad.v, Value.ownBlock] at hk) (Nat.le_refl _))
      | (go_at_call 96
         refine (HST.out wY (HATX.out.below hbY)).mono ?_
         rintro e wZ ⟨aZ, rfl, hATZ, hTZ, hZO, hZH⟩)
      | (refine wpList_load_box rfl 27 _ rfl g rfl (wkC P4 aZ) (hATZ.box) _ Tryz.underlying27 rfl size_wk ?_)
      | (refine wpList_store_box rfl 27 _ _ rfl (g + 1) 0 (wkC P4 aZ) zeroC (wkC P4 aZ) rfl rfl ((HSKX.out.res.below hbY HSKX.out.res.1).touch hTZ (fun hf => by
          rcases hf with hf | hf
          · omega
          · have := (own_lt HATX.out.new.core.ready hf).2; omega)) (show 0 + 9 ≤ 9 by decide) rfl size_wk rfl ?_; intro wE bxE TE))
    have tE := TE (fun k => k = g + 1) rfl
    obtain ⟨ms', hrow, hms⟩ := hOut.row
    rw [List.nil_append] at hrow
    have hsY := hbY.size
    have hsZ := hTZ.size
    have hbx : B ≤ w13.heap.size := HATX.out.le
    have hR : ∀ k, a13.R.v.ownBlock = some k → B ≤ k ∧ k < w13.heap.size := fun k hk => ⟨(own_lt HATX.out.new.core.ready hk).2, (own_lt HATX.out.new.core.ready hk).1⟩
    have hfar : ∀ y ∈ ms', ∀ k, y.2.v.ownBlock = some k → w13.heap.size ≤ k := fun y hy k hk => (own_lt (hrow.sub y hy).1 hk).2
    have hrow2 := (hrow.touch hTZ (fun k hk hf => by
      have := (own_lt hrow.row hk).2
      rcases hf with hf | hf
      · omega
      · have := hR k hf; omega) (fun y hy k hk hf => by
      have := hfar y hy k hk
      rcases hf with hf | hf
      · omega
      · have := hR k hf; omega)).touch tE (fun k hk hf => by have := (own_lt hrow.row hk).2; omega) (fun y hy k hk hf => by have := hfar y hy k hk; omega)
    have hTe : Touch (fun k => k = g ∨ B ≤ k) w5 wZ := (HTX.out.on (Touch.of hbY)).on (hTZ.mono fun k hk => hk.imp id fun h => (hR k h).1)
    have hbel : Below g w wE := (HBN.out.trans (hTe.below (fun k hk => by omega) (by omega))).trans (tE.below (fun k hk => by omega) (by omega))
    obtain ⟨r0, r1, r2, r3, r4, r5, r6, r7, r8⟩ := wk_cells bxE
    refine bodyPost_ret (v := .tuple #[wkV P4 aZ, .slice Ao no co, .int .i64 0]) (by simp [results, Tryz.results52, go_sem, r0, r1, r2, r3, r4, r5, r6, r7, r8, wkV, Ad.v]) rfl ⟨aZ, ⟨Ao, no, co⟩, ms', by rw [HQ.out, HP4.out]; rfl, ?_, hrow2.more (by rw [HG.out]; omega), by rw [HL.out]; exact hms, fun y hy k hk => ⟨fun ho => ?_, fun z hz ho => ?_⟩, by rw [HG.out]; exact hbel⟩
    · rw [HQ.out, HG.out, ← HP4.out]
      exact (hATZ.new.touch tE (fun k hk ho => by have := (hATZ.new.core.lt ho).2; omega) (fun k hk ho => by have := (own_lt hATZ.new.open_ ho).2; omega)).more (by omega)
    · rw [hZO] at ho
      have := (own_lt HATX.out.new.open_ ho).1
      have := hfar y hy k hk
      omega
    · rw [hZH] at hz
      have := (own_lt (HATX.out.new.core.held.sub z hz).1 ho).1
      have := hfar y hy k hk
      omega

end Go.Proofs.YteepobghdpnabaaGreat
namespace Go.Proofs.YteepobghdpnabaaGreat
open Go.RowKit

theorem sealed_any (P : WkD) (a : WkA) (d : Int) (w : World) (h : WIn w P a) (hf : WFew P 300000) : Calls Tryz.prog 52 #[wkV P a, .int .i64 d] w (Ret3 (orW (ifMay P (sealE P d)) (sealW P d)) (orO (ifMay P (sealE P d)) (sealO P d)) (ifMay P (sealE P d)) w) := by
 by_cases hok : ifMay P (sealE P d) = 0
 ·exact sealed_yes P a d w h hf hok
 ·exact sealed_no P a d w h hf hok

end Go.Proofs.YteepobghdpnabaaGreat
