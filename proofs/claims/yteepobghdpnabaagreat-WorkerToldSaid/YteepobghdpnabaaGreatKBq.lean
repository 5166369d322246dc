/-
 slices.Insert of one element at a row's end.
-/
import Derived.Maps.AppendAt
import Derived.Deep.CutRange
import Derived.IntWalk
import Derived.Test.YteepobghdpnabaaGreatKBp
import Derived.Test.YteepobghdpnabaaGreatKBf
import Derived.Test.YteepobghdpnabaaGreatKBh
import Derived.Test.YteepobghdpnabaaGreatKBb
import Derived.Test.YteepobghdpnabaaGreatKBe
import Derived.Test.YteepobghdpnabaaGreatKBn
namespace Go.Proofs.YteepobghdpnabaaGreat
open Go.RowKit

set_option maxRecDepth 100000 in
set_option maxHeartbeats 4000000 in
theorem insert_endH (B gx n : Nat) (v : Value) (xs us : List Value) (w : World) (h : w.ownsRow B 70 4 v n xs) (hB : B ≤ w.heap.size) (hn : n ≤ 1000000)
  (hu : us.length = 4) (hgx : w.heap[gx]? = some (.cells us.toArray 70 (0, 0))) (hu1 : ∀ v ∈ us, v.oneCell' = true) :
  Calls Tryz.prog 126 #[v, .int .i64 n, .slice (some ⟨gx, 0, none⟩) 1 1] w fun e w' =>
   ∃ g' c', e = .returned (.slice (some ⟨g', 0, none⟩) (n + 1) c') ∧ w'.ownsRow B 70 4 (.slice (some ⟨g', 0, none⟩) (n + 1) c') (n + 1) (xs ++ us) ∧ w.grownBy w' v.ownBlock ∧ (v.ownBlock = some g' ∨ g' = w.heap.size) := by
 obtain ⟨i0, hi0, hz0, hz1, hz2⟩ := info_parts info_zheld
 have hcell : ∀ j y, us[j]? = some y → w.cell? ((⟨gx, 0, none⟩ : Addr).add j) = some y := fun j y hj => by
  rw [Addr.add_lit, cell_of_row _ _ _ _ _ _ hgx]; simpa using hj
 have HU := Lib.hid hcell
 have HL := Lib.hid hu
 have HO := Lib.hid hu1
 clear hcell hu hgx hu1
 have hown := h
 obtain ⟨A, c, rfl, hnc, hcm, _, _, hxl⟩ := ownS_slice h
 have HX := Lib.hid hxl
 have HW := Lib.hid hown
 clear h hown hxl
 unfold maxLen at hcm
 have e1 : (0 : Int) ≤ (n : Int) := by omega
 by_cases hc : c = n
 all_goals rcases A with _ | A
 all_goals
  go_enter Tryz.func126, Tryz.ntmps126
  go_wp2_with (at_builtin; refine wpList_append_lies (o := ⟨some 25, _, _, _, _, _⟩) _ rfl (.tmp 23) (.tmp 24) 24 rfl B 70 i0 zheld 4 48 Tryz.underlying24 hi0 hz0 hz1 hz2 rfl (by decide) (.slice _ n c) n xs rfl HW.out ⟨gx, 0, none⟩ 1 1 us rfl HL.out HU.out HO.out (by decide) (by unfold maxLen; omega) (by omega) hB _ rfl ?_)
  intro g' c' w' k1 k2 k3 k4
  go_wp2
  go_ret
  exact ⟨g', c', rfl, k1, k2, k3⟩

end Go.Proofs.YteepobghdpnabaaGreat
namespace Go.Proofs.YteepobghdpnabaaGreat
open Go.RowKit

theorem putIn_endH {xs us : List Value} {n : Nat} (h : xs.length = n * 4) : putInH xs us n = xs ++ us := by
 rw [putInH, List.take_of_length_le (by omega), List.drop_of_length_le (by omega), List.append_nil]

theorem insert_anyH (B gx n i : Nat) (v : Value) (xs us : List Value) (w : World) (h : w.ownsRow B 70 4 v n xs) (hB : B ≤ w.heap.size) (hi : i ≤ n) (hn : n ≤ 1000000) (h1 : ∀ v ∈ xs, v.oneCell' = true)
  (hu : us.length = 4) (hgx : w.heap[gx]? = some (.cells us.toArray 70 (0, 0))) (hu1 : ∀ v ∈ us, v.oneCell' = true) (hne : v.ownBlock ≠ some gx) :
  Calls Tryz.prog 126 #[v, .int .i64 i, .slice (some ⟨gx, 0, none⟩) 1 1] w fun e w' =>
   ∃ v', e = .returned v' ∧ w'.ownsRow B 70 4 v' (n + 1) (putInH xs us i) ∧ w.grownBy w' v.ownBlock ∧ (v'.ownBlock = v.ownBlock ∨ v'.ownBlock = some w.heap.size) := by
 rcases Nat.lt_or_ge i n with hlt | hge
 ·rcases h.2 with ⟨rfl, h0⟩ | ⟨g, cap, cur, rfl, hb, hg, hnc, hcm, hcs, ht⟩
  ·omega
  ·have hgg : gx ≠ g := fun e => hne (by rw [e]; rfl)
   rcases Nat.lt_or_ge n cap with hroom | hfull
   ·refine (insert_roomH B g cap n i gx xs us w h hlt (by omega) hn h1 hu hgx hu1 hgg).mono ?_
    rintro e w' ⟨rfl, h2, h3⟩
    exact ⟨_, rfl, h2, h3, .inl rfl⟩
   ·obtain rfl : cap = n := by omega
    refine (insert_growH B g cap i gx xs us w h hB hlt hn h1 hu hgx hu1).mono ?_
    rintro e w' ⟨G, rfl, h2, h3⟩
    exact ⟨_, rfl, h2, ⟨h3.os, h3.tape, h3.output, h3.size, fun k hk _ => h3.block k hk (by simp)⟩, .inr rfl⟩
 ·obtain rfl : i = n := by omega
  refine (insert_endH B gx i v xs us w h hB hn hu hgx hu1).mono ?_
  rintro e w' ⟨g', c', rfl, h2, h3, h4⟩
  exact ⟨_, rfl, by rw [putIn_endH h.1]; exact h2, h3, h4.elim (fun h => .inl h.symm) (fun h => .inr (by rw [h]; rfl))⟩

end Go.Proofs.YteepobghdpnabaaGreat
namespace Go.Proofs.YteepobghdpnabaaGreat
open Go.RowKit

theorem putH (ms : List (HlD × Ad)) (i : Nat) (d a n : Int) (L : List TxD) (o : Ad) : putInH (cellsK KH ms) [.int .i64 d, .int .i64 a, .int .i64 n, o.v] i = (cellsK KH ms).take (i * KH.s) ++ KH.cells ⟨d, a, n, L⟩ o.v ++ (cellsK KH ms).drop (i * KH.s) := rfl

theorem hold_end {B g p : Nat} {w1 w2 w4 : World} {P : WkD} {a : WkA} {o' o4 : Ad} {ob : Obj} {d ba bn : Int} {L : List TxD} (h : WAt B g w1 P a) (hb2 : Below w1.heap.size w1 w2) (ho : w2.ownsRow w1.heap.size 40 4 o'.v o'.n (txs L)) (hl : L.length = o'.n)
  (hown : w4.ownsRow B 70 4 o4.v o4.n (putInH (cellsK KH a.hs) [.int .i64 d, .int .i64 ba, .int .i64 bn, o'.v] p)) (hn : o4.n = a.H.n + 1) (hgr : (w2.alloc ob).grownBy w4 a.H.v.ownBlock) (hp : p ≤ a.H.n) :
  WAt B g (w4.setCell ⟨g, 7, none⟩ o4.v) { P with H := insAt P.H p ⟨d, ba, bn, L⟩ } { a with H := o4, hs := insAt a.hs p (⟨d, ba, bn, L⟩, o') } ∧ Touch (fun k => k = g ∨ B ≤ k) w1 (w4.setCell ⟨g, 7, none⟩ o4.v) := by
 have T24 : Touch (fun k => a.H.v.ownBlock = some k) w2 w4 := ((Touch.refl _ w2).alloc ob).on (Touch.grown hgr fun k hk => hk)
 have T14 : Touch (fun k => a.H.v.ownBlock = some k) w1 w4 := (Touch.of hb2).on T24
 have hle := h.le
 have hlt := h.lt
 have hrow := h.new.core.held.ins (x := HlD.mk d ba bn L) (o := o') hb2 ho hl hle T24 (by rw [← putH]; exact hown) hn (by rw [h.new.core.held.len]; exact hp)
 have hnew := h.new.setH T14 hrow (L := insAt P.H p ⟨d, ba, bn, L⟩) (by rw [map_ins, h.new.core.eH]) (fun x hx k hk hk2 => by
  rcases mem_ins hx with rfl | hx
  ·have := (own_lt ho hk2).2
   have := (own_lt h.new.open_ hk).1
   omega
  ·exact h.new.apO x hx k hk hk2)
 have hH : ∀ k, a.H.v.ownBlock = some k → B ≤ k := fun k hk => (own_lt h.new.core.held.row hk).2
 have hT4 : Touch (fun k => k = g ∨ B ≤ k) w1 w4 := T14.mono fun k hk => .inr (hH k hk)
 have hs := T14.size
 have hbx := (h.box.touch T14 fun hf => by have := hH g hf; omega).set (j := 7) (u := o4.v) (show 7 < 9 by decide)
 have Tg : Touch (fun k => k = g) w4 (w4.setCell ⟨g, 7, none⟩ o4.v) := (Touch.refl (fun k => k = g) w4).set (.inl rfl) o4.v
 refine ⟨⟨hbx, hnew.touch Tg (fun k hk ho => by have := (hnew.core.lt ho).2; omega) (fun k hk ho => by have := (own_lt hnew.open_ ho).2; omega), hlt, by have := Tg.size; omega⟩, hT4.on (Tg.mono fun k hk => .inl hk)⟩

set_option maxRecDepth 100000 in
set_option maxHeartbeats 16000000 in
theorem hold_any (B g : Nat) (P : WkD) (a : WkA) (d ba bn : Int) (o : Ad) (L : List TxD) (w : World) (h : WAt B g w P a) (hS : SlIn w o L.length (txs L)) (hL : L.length ≤ 1000000) (hr : RiseI P.hs) (hf : P.H.length ≤ 1000000) :
    Calls Tryz.prog 92 #[.pointer (some ⟨g, 0, none⟩), .int .i64 d, .agg #[.int .i64 ba, .int .i64 bn, o.v]] w (WTo B g (holdW P d ba bn L) w) := by
  obtain ⟨w0, hw0⟩ : ∃ w0, w0 = w.alloc (.cells #[.int .i64 ba, .int .i64 bn, .slice o.A o.n o.c] 42) := ⟨_, rfl⟩
  have hb0 : Below w.heap.size w w0 := by rw [hw0]; exact (Below.refl _ _).alloc (Nat.le_refl _) _
  have bx0 := box_new w [.int .i64 ba, .int .i64 bn, .slice o.A o.n o.c] 42
  have h0 := h.below hb0
  have hfind := findHeld_any P a d w0 h0.new.in_.held h0.new.in_.eH hf hr
  have hlen : P.H.length = a.H.n := by rw [← h.new.core.eH, List.length_map]; exact h.new.core.held.len
  have hp := posI_le P.hs d
  have hpl : P.hs.length = P.H.length := by simp [WkD.hs]
  obtain ⟨p, hpe⟩ : ∃ p, p = posI P.hs d := ⟨_, rfl⟩
  have HP := Lib.hid hpe
  rw [← hpe] at hfind hp
  have hT0 : Touch (fun k => k = g ∨ B ≤ k) w w0 := Touch.of hb0
  rw [← hw0] at bx0
  have HW0 := Lib.hid hw0
  have HA := Lib.hid h0
  have HS : Hid (∀ wX, Below w0.heap.size w0 wX → SlIn wX o L.length (txs L)) := by show ∀ wX, _; exact fun wX hx => (hS.below hb0).below hx
  have HT0 := Lib.hid hT0
  have hgl : g < w0.heap.size := h0.box.1
  have hwl : w.heap.size < w0.heap.size := bx0.1
  have hgw : w.heap.size ≠ g := by have := h.lt; have := h.le; omega
  have hpn : p ≤ a.H.n := by omega
  clear hw0 h hS hb0 hr hpe hT0 hp hpl
  by_cases hd : d ∈ P.hs
  · have HE : Hid (holdW P d ba bn L = P) := by show holdW P d ba bn L = P; rw [holdW, if_pos (.inl hd)]
    rw [decide_eq_true hd] at hfind
    have HFD := Lib.hid hfind
    clear hfind hd hf
    unfold Ad.v
    go_enter Tryz.func92, Tryz.ntmps92
    go_upto_region 1 with fail
    rw [← HW0.out]
    go_wp2_with (first
      | (refine wpList_load_box rfl 27 _ rfl g rfl (wkC P a) HA.out.box _ Tryz.underlying27 rfl size_wk ?_)
      | (go_at_call 89; refine HFD.out.mono ?_; rintro e w1 ⟨rfl, hb1⟩))
    go_end0
    exact ⟨a, rfl, by rw [HE.out]; exact HA.out.below hb1, HT0.out.on ((Touch.of hb1))⟩
  · by_cases hfull : (1024 : Int) ≤ (a.H.n : Int)
    · have HE : Hid (holdW P d ba bn L = P) := by show holdW P d ba bn L = P; rw [holdW, if_pos (.inr (by omega))]
      rw [decide_eq_false hd] at hfind
      have HFD := Lib.hid hfind
      obtain ⟨k0, k1, k2, k3, k4, k5, k6, k7, k8⟩ := wk_cells HA.out.box
      clear hfind hd hf k0 k1 k2 k3 k4 k5 k6 k8
      unfold Ad.v
      go_enter Tryz.func92, Tryz.ntmps92
      go_upto_region 1 with fail
      rw [← HW0.out]
      go_wp2_with (first
        | (refine wpList_load_box rfl 27 _ rfl g rfl (wkC P a) HA.out.box _ Tryz.underlying27 rfl size_wk ?_)
        | (go_at_call 89; refine HFD.out.mono ?_; rintro e w1 ⟨rfl, hb1⟩; have j7 := (hb1.cell (p := ⟨g, 7, none⟩) hgl).trans k7))
      go_end0
      exact ⟨a, rfl, by rw [HE.out]; exact HA.out.below hb1, HT0.out.on ((Touch.of hb1))⟩
    · have HE : Hid (holdW P d ba bn L = { P with H := insAt P.H p ⟨d, ba, bn, L⟩ }) := by show holdW P d ba bn L = _; rw [holdW, if_neg (by rintro (h1 | h1); exact hd h1; omega), HP.out]
      rw [decide_eq_false hd] at hfind
      have HFD := Lib.hid hfind
      obtain ⟨k0, k1, k2, k3, k4, k5, k6, k7, k8⟩ := wk_cells HA.out.box
      have HK7 := Lib.hid k7
      have HBX := Lib.hid bx0
      have HN := Lib.hid hlen
      clear hfind hd hf k0 k1 k2 k3 k4 k5 k6 k8 bx0
      unfold Ad.v
      go_enter Tryz.func92, Tryz.ntmps92
      go_upto_region 1 with fail
      rw [← HW0.out]
      go_upto_region 3 with (first
        | (refine wpList_load_box rfl 27 _ rfl g rfl (wkC P a) HA.out.box _ Tryz.underlying27 rfl size_wk ?_)
        | (go_at_call 89; refine HFD.out.mono ?_; rintro e w1 ⟨rfl, hb1⟩; have j7 := (hb1.cell (p := ⟨g, 7, none⟩) hgl).trans k7))
      have hA1 := HA.out.below hb1
      have hgl1 : g < w1.heap.size := hA1.box.1
      have hle1 := hA1.le
      have hlt1 := hA1.lt
      have hbx1 := HBX.out.below hb1 hwl
      have m0 : w1.cell? ⟨w.heap.size, 0, none⟩ = some (.int .i64 ba) := (hbx1.2 0 _ rfl).1
      have m1 : w1.cell? ⟨w.heap.size, 1, none⟩ = some (.int .i64 bn) := (hbx1.2 1 _ rfl).1
      have m2 : w1.cell? ⟨w.heap.size, 2, none⟩ = some (.slice o.A o.n o.c) := (hbx1.2 2 _ rfl).1
      have f7 : w1.frozen? ⟨g, 7, none⟩ = false := (hA1.box.2 7 _ rfl).2
      have hwl1 : w.heap.size < w1.heap.size := hbx1.1
      have HROW := Lib.hid hA1.new.core.held.row
      have HOLT : Hid (∀ k, a.H.v.ownBlock = some k → B ≤ k ∧ k < w1.heap.size) := by show ∀ k, _; exact fun k hk => ⟨(own_lt hA1.new.core.held.row hk).2, (own_lt hA1.new.core.held.row hk).1⟩
      have HA1 := Lib.hid hA1
      have HB1 := Lib.hid hb1
      have HSD : Hid (SlIn w1.drew o L.length (txs L)) := (HS.out _ hb1).drew
      clear hbx1 hA1 hb1 h0 k7
      go_region_with (first
        | (go_at_call 80; refine (copied_any ba bn o L _ HSD.out hL).mono ?_; rintro e w2 ⟨⟨A', n', c'⟩, rfl, hn', ho', hb'⟩
           obtain rfl : n' = L.length := hn'
           dsimp only [Ad.v]
           have hb2 : Below w1.heap.size w1 w2 := ((Below.refl _ _).drew).trans hb'
           have e7 := (hb2.cell (p := ⟨g, 7, none⟩) hgl1).trans j7
           have e0 := (hb2.cell (p := ⟨w.heap.size, 0, none⟩) hwl1).trans m0
           have e1 := (hb2.cell (p := ⟨w.heap.size, 1, none⟩) hwl1).trans m1
           have e2 := (hb2.cell (p := ⟨w.heap.size, 2, none⟩) hwl1).trans m2
           have e7a : (w2.alloc (.cells #[.int .i64 d, .int .i64 ba, .int .i64 bn, .slice A' L.length c'] 70)).cell? ⟨g, 7, none⟩ = some (.slice a.H.A a.H.n a.H.c) := ((hb2.alloc hb2.size _).cell (p := ⟨g, 7, none⟩) hgl1).trans j7)
        | (go_at_call 126
           refine (insert_anyH B w2.heap.size a.H.n p (.slice a.H.A a.H.n a.H.c) (cellsK KH a.hs) [.int .i64 d, .int .i64 ba, .int .i64 bn, .slice A' L.length c'] _ (ownS_below HROW.out (hb2.alloc hb2.size _)) (by have := hb2.size; simp; omega) hpn (by omega) (cellsK_oneCell KH _) rfl (heap_alloc_new _ _) (KH.one ⟨d, ba, bn, L⟩ (.slice A' L.length c') rfl) (fun hq => by have := (HOLT.out _ hq).2; have := hb2.size; omega)).mono ?_
           rintro e w4 ⟨v4, rfl, hown, hgr, -⟩
           obtain ⟨A4, c4, rfl, _⟩ := ownS_slice hown
           have f7a : w4.frozen? ⟨g, 7, none⟩ = false := ((World.frozen?_of_block (a := ⟨g, 7, none⟩) (hgr.block g (by have := hb2.size; simp; omega) (fun hq => by have := (HOLT.out g hq.symm).1; omega))).trans ((hb2.alloc hb2.size _).frozen (p := ⟨g, 7, none⟩) hgl1)).trans f7
           have e7b : ∃ u, w4.cell? ⟨g, 7, none⟩ = some u := ⟨_, (World.cell?_of_block (a := ⟨g, 7, none⟩) (hgr.block g (by have := hb2.size; simp; omega) (fun hq => by have := (HOLT.out g hq.symm).1; omega))).trans e7a⟩
           obtain ⟨u7, e7c⟩ := e7b))
      all_goals
        go_wp2_with fail
        go_end0
        have hend := hold_end (o' := ⟨A', L.length, c'⟩) (o4 := ⟨A4, a.H.n + 1, c4⟩) HA1.out hb2 ho' rfl hown rfl hgr hpn
        exact ⟨_, rfl, by rw [HE.out]; exact hend.1, (HT0.out.on (Touch.of HB1.out)).on hend.2⟩

end Go.Proofs.YteepobghdpnabaaGreat
namespace Go.Proofs.YteepobghdpnabaaGreat
open Go.RowKit

theorem run_app_rowsZ {P : Program} (w : World) (t ty : TypeId) (B : Nat) (e : TypeId) (z : Value) (sz bytes : Nat) (ht : P.underlying t = some (.slice e)) (hinfo : (P.info? e).map (fun i => (i.zero, i.size, i.bytes)) = some (some z, sz, bytes)) (hzs : z.cells.size = sz) (hsz : 0 < sz) (hby : bytes ≤ 512)
  (v : Value) (n : Nat) (xs : List Value) (hown : w.ownsRow B e sz v n xs) (A : Option Addr) (m c : Nat) (news : List Value) (hm : news.length = m * sz) (hr : Rd w A news) (h1 : ∀ u ∈ news, u.oneCell' = true) (hn : n + m ≤ 2000000) (hB : B ≤ w.heap.size) :
  ∃ A' c' w', (Builtin.append_ #[t, t] ty #[v, .slice A m c]).run P w = .ok (.slice A' (n + m) c') w' ∧ w'.ownsRow B e sz (.slice A' (n + m) c') (n + m) (xs ++ news) ∧ w.grownBy w' v.ownBlock ∧ ((Value.slice A' (n + m) c').ownBlock = v.ownBlock ∨ (Value.slice A' (n + m) c').ownBlock = some w.heap.size) := by
 obtain ⟨i, hi, hz, hsize, hbytes⟩ := info_parts hinfo
 cases A with
 | none =>
  have hn0 : news = [] := by
   rcases Nat.eq_zero_or_pos news.length with h0 | h0
   ·exact List.eq_nil_of_length_eq_zero h0
   ·obtain ⟨b, off, he, _⟩ := hr.open_ h0
    cases he
  subst hn0
  have hm0 : m = 0 := by
   rcases Nat.eq_zero_or_pos m with h0 | h0
   ·exact h0
   ·have := Nat.mul_le_mul h0 hsz
    simp at hm
    omega
  subst hm0
  obtain ⟨A', c', rfl, hnc, _⟩ := ownS_slice hown
  refine ⟨A', c', w, ?_, by simpa using hown, ⟨rfl, rfl, rfl, Nat.le_refl _, fun _ _ _ => rfl⟩, .inl rfl⟩
  rcases hown.2 with ⟨hv, _⟩ | ⟨g, cap, cur, hv, _, _, hnc, _⟩
  ·cases hv
   simp [Builtin.append_, run_underlying ht, sizeOf, typeInfo, hi, Builtin.lenOf, Builtin.firstCells]
  ·cases hv
   simp [Builtin.append_, run_underlying ht, sizeOf, typeInfo, hi, Builtin.lenOf, Builtin.firstCells, hnc, storeCells]
 | some ad =>
  rcases Nat.eq_zero_or_pos m with h0 | h0
  ·subst h0
   have hn0 : news = [] := List.eq_nil_of_length_eq_zero (by omega)
   subst hn0
   obtain ⟨v', w', hrun, h2, h3, _, h5⟩ := run_append_own_at (P := P) w B t ty e i z sz bytes ht hi hz hsize hbytes hzs hsz v n xs hown ad 0 c [] (by simp) (fun j y hj => by simp at hj) h1 (by unfold maxLen; omega) (by have := Nat.mul_le_mul hn hby; omega) hB
   obtain ⟨A', c', rfl, _⟩ := ownS_slice h2
   exact ⟨A', c', w', hrun, h2, h3, h5⟩
  ·obtain ⟨v', w', hrun, h2, h3, _, h5⟩ := run_append_own_at (P := P) w B t ty e i z sz bytes ht hi hz hsize hbytes hzs hsz v n xs hown ad m c news hm (fun j y hj => by
    have hl : j < news.length := (List.getElem?_eq_some_iff.1 hj).1
    obtain ⟨b, off, he, _, hc⟩ := hr.open_ (by omega)
    cases he
    rw [Addr.add_lit]
    exact hc j y hj) h1 (by unfold maxLen; omega) (by have := Nat.mul_le_mul hn hby; omega) hB
   obtain ⟨A', c', rfl, _⟩ := ownS_slice h2
   exact ⟨A', c', w', hrun, h2, h3, h5⟩
section
variable {α : Type} {K : Kd α} {w w' : World} {a a1 a' : Ad} {ms m1 : List (α × Ad)} {B C p : Nat}
end
section
variable {g B : Nat} {w w' : World} {P : WkD} {a : WkA} {l : List OtD} {o ho : Ad} {ms : List (OtD × Ad)} {hs : List (HlD × Ad)} {L : List HlD}
theorem StAt.putH (h : StAt g B w P a l o ms) (hb : Below w.heap.size w w') (hr : RowOwn KH B w' ho hs) (he : hs.map Prod.fst = L) (h0 : ∀ k, ho.v.ownBlock = some k → k ≠ g) (h1 : ∀ y ∈ hs, ∀ k, y.2.v.ownBlock = some k → k ≠ g ∧ ∀ z ∈ ms, z.2.v.ownBlock ≠ some k) :
  StAt g B (w'.setCell ⟨g, 7, none⟩ ho.v) { P with H := L } { a with H := ho, hs := hs } l o ms ∧ Touch (fun k => k = g) w (w'.setCell ⟨g, 7, none⟩ ho.v) := by
 have h' := h.below hb
 have Tg : Touch (fun k => k = g) w' (w'.setCell ⟨g, 7, none⟩ ho.v) := (Touch.refl (fun j => j = g) w').set (.inl rfl) ho.v
 have hbx := h'.box.set (j := 7) (u := ho.v) (show 7 < 10 by decide)
 have hpg := h'.pg.setH (Touch.refl _ w') hr he
 have hno : ∀ k, stHas { a with H := ho, hs := hs } o ms k → k ≠ g := by
  rintro k ((hk | hk | hk | ⟨y, hy, hk⟩ | ⟨y, hy, hk⟩) | hk | hk | hk)
  ·exact h.far0 k (.inl (.inl hk))
  ·exact h0 k hk
  ·exact h.far0 k (.inl (.inr (.inr (.inl hk))))
  ·exact h.far0 k (.inl (.inr (.inr (.inr (.inl ⟨y, hy, hk⟩)))))
  ·exact (h1 y hy k hk).1
  ·exact h.far0 k (.inr (.inl hk))
  ·exact h.far0 k (.inr (.inr (.inl hk)))
  ·exact h.far0 k (.inr (.inr (.inr hk)))
 exact ⟨⟨by simpa [wkC] using hbx, hpg.touch Tg (fun k hk ho => hno k (.inl ho) hk) (fun k hk ho => hno k (.inr (.inl ho)) hk), h'.out.touch Tg (fun k hk hf => hno k (.inr (.inr (.inl hk))) hf) (fun y hy k hk hf => hno k (.inr (.inr (.inr ⟨y, hy, hk⟩))) hf), h'.eO, hno,
  fun y hy z hz k h2 h3 => (h1 z hz k h3).2 y hy h2, h.gB, by have := h'.le; have := Tg.size; omega⟩, (Touch.of hb).on Tg⟩
end
end Go.Proofs.YteepobghdpnabaaGreat
namespace Go.Proofs.YteepobghdpnabaaGreat
open Go.RowKit

set_option maxHeartbeats 1000000 in
theorem spoilTxs_far (B : Nat) (v : Value) (n : Nat) (xs0 : List Value) (w : World) (hown : w.ownsRow B 40 4 v n xs0) (hn : n ≤ 1000000) :
  Calls Tryz.prog 50 #[v] w fun e w' => e = .returned (.tuple #[]) ∧ Touch (fun k => v.ownBlock = some k) w w' := by
 obtain ⟨i0, hi0, hz0, hz1, hz2⟩ := info_parts info_tx
 have HI0 := Lib.hid hi0
 have HZ0 := Lib.hid hz0
 have HZ1 := Lib.hid hz1
 have HZ2 := Lib.hid hz2
 clear hi0 hz0 hz1 hz2
 obtain ⟨A, c, rfl, hc, hm, _, _, _⟩ := ownS_slice hown
 unfold maxLen at hm
 go_enter Tryz.func50, Tryz.ntmps50
 go_wp2
 go_loopw [2] (fun i wr => ∃ (k : Nat) (xs : List Value), i = .int .i64 k ∧ k ≤ n ∧ wr.ownsRow 0 40 4 (.slice A n c) n xs ∧ Touch (fun k => (Value.slice A n c).ownBlock = some k) w wr) (fun i _ => n - (intOf i).toNat)
 case atStart => exact ⟨0, xs0, rfl, by omega, ownS_more hown (Nat.zero_le _), Touch.refl _ _⟩
 case round =>
  obtain ⟨k, xs, rfl, hk, ho, ht⟩ := hrel
  have HT := Lib.hid ht
  clear hown ht
  by_cases hlt : k < n
  ·obtain ⟨g, cap, hv, hBg, hglt⟩ := ho.form (by omega)
   simp only [Value.slice.injEq, true_and] at hv
   obtain ⟨rfl, rfl⟩ := hv
   have hl := ho.1
   have key : ∀ j, j < n * 4 → ∃ u, wr.cell? ⟨g, j, none⟩ = some u := fun j hj => ⟨xs[j], (ho.cellAt j hj).trans (by simp)⟩
   obtain ⟨u0, c0⟩ := key (k * 4) (by omega)
   obtain ⟨u1, c1⟩ := key (k * 4 + 1) (by omega)
   obtain ⟨u2, c2⟩ := key (k * 4 + 2) (by omega)
   obtain ⟨u3, c3⟩ := key (k * 4 + 3) (by omega)
   have f0 := ho.frozenAt (k * 4)
   have f1 := ho.frozenAt (k * 4 + 1)
   have f2 := ho.frozenAt (k * 4 + 2)
   have f3 := ho.frozenAt (k * 4 + 3)
   clear key hl
   have i0 : (0 : Int) ≤ (k : Int) := by omega
   have i1 : (k : Int) < (n : Int) := by omega
   go_wp2
   go_roundw
   case rel => exact ⟨k + 1, _, by go_num, by omega, ((((ho.stored _ _).1.stored _ _).1.stored _ _).1.stored _ _).1, (((HT.out.set (.inl rfl) _).set (.inl rfl) _).set (.inl rfl) _).set (.inl rfl) _⟩
   case measure => simp [intOf]; omega
  ·have i1 : ¬ ((k : Int) < (n : Int)) := by omega
   obtain rfl : k = n := by omega
   have HO := Lib.hid ho
   clear ho
   have hrun := run_app_rowsZ (P := Tryz.prog) (wr.alloc (.cells (TxD.cells ⟨0, 0, ⟨#[]⟩, ⟨#[]⟩⟩).toArray 40)) 22 22 0 40 _ 4 48 Tryz.underlying22 info_tx rfl (by decide) (by decide) (.slice A k c) k xs (HO.out.alloc _) (some ⟨wr.heap.size, 0, none⟩) 1 1 (TxD.cells ⟨0, 0, ⟨#[]⟩, ⟨#[]⟩⟩) rfl (rd_new wr _ 40) (cells_one _) (by omega) (Nat.zero_le _)
   obtain ⟨A6, c6, w6, hr6, ho6, hg6, -⟩ := hrun
   have HR6 := Lib.hid hr6
   have hT := ((HT.out.alloc (.cells (TxD.cells ⟨0, 0, ⟨#[]⟩, ⟨#[]⟩⟩).toArray 40))).trans (Touch.grown (F := fun k' => (Value.slice A k c).ownBlock = some k') hg6 (fun k' e => e)) (fun k' hf => .inl hf)
   have HTT := Lib.hid hT
   clear hr6 ho6 hg6 hT
   go_wp2_with (at_builtin; refine wpList_app_run (v := .slice A k c) (u := .slice (some ⟨wr.heap.size, 0, none⟩) 1 1) _ rfl _ _ 22 22 rfl rfl rfl HR6.out ?_)
   go_end0
   exact ⟨rfl, HTT.out⟩

theorem set4 {pre X R : List Value} {k : Nat} (hp : pre.length = k * 4) (hX : X.length = 4) {u0 u1 u2 u3 : Value} : ((((pre ++ (X ++ R)).set (k * 4) u0).set (k * 4 + 1) u1).set (k * 4 + 2) u2).set (k * 4 + 3) u3 = (pre ++ [u0, u1, u2, u3]) ++ R := by
 match X, hX with
 | [a, b, c, d], _ =>
  rw [List.set_append_right _ _ (by omega), List.set_append_right _ _ (by omega), List.set_append_right _ _ (by omega), List.set_append_right _ _ (by omega), show k * 4 - pre.length = 0 by omega, show k * 4 + 1 - pre.length = 1 by omega, show k * 4 + 2 - pre.length = 2 by omega, show k * 4 + 3 - pre.length = 3 by omega]
  simp
theorem row_zero {α : Type} {K : Kd α} {k : Nat} {ms : List (α × Ad)} {x : α × Ad} (hx : ms[k]? = some x) :
  cellsK K (ms.drop k) = K.cells x.1 x.2.v ++ cellsK K (ms.drop (k + 1)) := by
 obtain ⟨hl, he⟩ := List.getElem?_eq_some_iff.1 hx
 rw [List.drop_eq_getElem_cons hl, he]
 rfl

set_option maxRecDepth 100000 in
set_option maxHeartbeats 4000000 in
theorem spoilHelds_far (B : Nat) (a : Ad) (hs : List (HlD × Ad)) (w : World) (h : RowOwn KH B w a hs) (hn : hs.length ≤ 1000000) (hf : ∀ y ∈ hs, y.1.L.length ≤ 1000000) (F : Nat → Prop) (hF : ∀ k, (a.v.ownBlock = some k ∨ ∃ y ∈ hs, y.2.v.ownBlock = some k) → F k) :
  Calls Tryz.prog 112 #[a.v] w fun e w' => e = .returned (.tuple #[]) ∧ Touch F w w' := by
 have HFF := Lib.hid hF
 clear hF
 obtain ⟨A, n, c⟩ := a
 have hz : hs.length = n := h.len
 have hn2 : n ≤ 1000000 := by omega
 have H := Lib.hid h
 have HZ := Lib.hid hz
 have HF := Lib.hid hf
 unfold Ad.v
 have hS0 : w.ownsRow B KH.e KH.s (.slice A n c) n ([] ++ cellsK KH (hs.drop 0)) := by rw [List.nil_append, List.drop_zero]; exact h.row
 have HS0 := Lib.hid hS0
 clear h hz hf hn hS0
 go_enter Tryz.func112, Tryz.ntmps112
 go_wp2
 go_loopw [2] (fun i wr => ∃ (k : Nat) (pre : List Value), i = .int .i64 k ∧ k ≤ n ∧ Hid (pre.length = k * 4) ∧ Hid (wr.ownsRow B KH.e KH.s (.slice A n c) n (pre ++ cellsK KH (hs.drop k))) ∧ Hid (Touch (fun j => (Value.slice A n c).ownBlock = some j ∨ ∃ y ∈ hs.take k, y.2.v.ownBlock = some j) w wr)) (fun i _ => n - (intOf i).toNat)
 case atStart => exact ⟨0, [], rfl, by omega, rfl, HS0, Lib.hid (Touch.refl _ _)⟩
 case round =>
  clear HS0
  obtain ⟨k, pre, rfl, hk, HP, HO, HT⟩ := hrel
  have i0 : (0 : Int) ≤ (k : Int) := by omega
  by_cases hlt : k < n
  ·obtain ⟨x, hx⟩ : ∃ x, hs[k]? = some x := ⟨hs[k]'(by rw [HZ.out]; exact hlt), by simp⟩
   have hcell := row_zero (K := KH) hx
   have HX := Lib.hid hx
   have hxm := List.mem_of_getElem? hx
   have ho := HO.out
   rw [hcell] at ho
   obtain ⟨g, cap, hv, hBg, hglt⟩ := ho.form (by omega)
   simp only [Value.slice.injEq, true_and] at hv
   obtain ⟨rfl, rfl⟩ := hv
   have HOX := Lib.hid ho
   have hlen := ho.1
   have hat : ∀ j u, (KH.cells x.1 x.2.v)[j]? = some u → wr.cell? ⟨g, k * 4 + j, none⟩ = some u := by
    intro j u hu
    have hj : j < 4 := by
     have := (List.getElem?_eq_some_iff.1 hu).1
     rw [KH.hs] at this
     exact this
    have h1 := ho.cellAt (k * 4 + j) (show k * 4 + j < n * 4 by omega)
    rw [h1, List.getElem?_append_right (by rw [HP.out]; omega), HP.out, show k * 4 + j - k * 4 = j by omega, List.getElem?_append_left (by rw [KH.hs]; exact hj)]
    exact hu
   have d0 : wr.cell? ⟨g, k * 4, none⟩ = some (.int .i64 x.1.d) := hat 0 _ rfl
   have d1 : wr.cell? ⟨g, k * 4 + 1, none⟩ = some (.int .i64 x.1.a) := hat 1 _ rfl
   have d2 : wr.cell? ⟨g, k * 4 + 2, none⟩ = some (.int .i64 x.1.n) := hat 2 _ rfl
   have d3 : wr.cell? ⟨g, k * 4 + 3, none⟩ = some (.slice x.2.A x.2.n x.2.c) := hat 3 _ rfl
   have hnod : ∀ j, x.2.v.ownBlock = some j → ¬ ((Value.slice (some ⟨g, 0, none⟩) n c).ownBlock = some j ∨ ∃ y ∈ hs.take k, y.2.v.ownBlock = some j) := by
    rintro j hj (e | ⟨y, hy, e⟩)
    ·exact H.out.apart hxm e hj
    ·obtain ⟨i, hi⟩ := List.mem_iff_getElem?.1 hy
     rw [List.getElem?_take] at hi
     split at hi
     ·rename_i hik
      have hp := List.pairwise_iff_getElem.1 H.out.nod i k (List.getElem?_eq_some_iff.1 hi).1 (List.getElem?_eq_some_iff.1 hx).1 hik j
      rw [(List.getElem?_eq_some_iff.1 hi).2, (List.getElem?_eq_some_iff.1 hx).2] at hp
      exact hp e hj
     ·cases hi
   have hsub := H.out.sub x hxm
   have hown : wr.ownsRow B 40 4 x.2.v x.2.n (txs x.1.L) := own_kept hsub.1 fun j hj hl => HT.out.block j hl (hnod j hj)
   have HSP := Lib.hid (spoilTxs_far B x.2.v x.2.n _ wr hown (by have h1 := hsub.2; have h2 := HF.out x hxm; have e : KH.len x.1 = x.1.L.length := rfl; omega))
   have hgx : x.2.v.ownBlock ≠ some g := fun e => H.out.apart hxm rfl e
   have HGX := Lib.hid hgx
   have i1 : (k : Int) < (n : Int) := by omega
   have f0 := ho.frozenAt (k * 4)
   have f1 := ho.frozenAt (k * 4 + 1)
   have f2 := ho.frozenAt (k * 4 + 2)
   have f3 := ho.frozenAt (k * 4 + 3)
   clear hcell hx ho hlen hat hnod hsub hown hgx hBg
   unfold Ad.v at HSP
   go_upto_region 4 with (go_at_call 50; refine HSP.out.mono ?_; rintro e w2 ⟨rfl, ht2⟩)
   have hk2 : ∀ j, w2.cell? ⟨g, j, none⟩ = wr.cell? ⟨g, j, none⟩ := fun j => World.cell?_of_block (a := ⟨g, j, none⟩) (ht2.block g hglt (fun e => HGX.out e))
   have hf2 : ∀ j, w2.frozen? ⟨g, j, none⟩ = wr.frozen? ⟨g, j, none⟩ := fun j => World.frozen?_of_block (a := ⟨g, j, none⟩) (ht2.block g hglt (fun e => HGX.out e))
   have a0 : w2.cell? ⟨g, k * 4, none⟩ = some (.int .i64 x.1.d) := (hk2 _).trans d0
   have a1 : w2.cell? ⟨g, k * 4 + 1, none⟩ = some (.int .i64 x.1.a) := (hk2 _).trans d1
   have a2 : w2.cell? ⟨g, k * 4 + 2, none⟩ = some (.int .i64 x.1.n) := (hk2 _).trans d2
   have a3 : w2.cell? ⟨g, k * 4 + 3, none⟩ = some (.slice x.2.A x.2.n x.2.c) := (hk2 _).trans d3
   have b0 : w2.frozen? ⟨g, k * 4, none⟩ = false := (hf2 _).trans f0
   have b1 : w2.frozen? ⟨g, k * 4 + 1, none⟩ = false := (hf2 _).trans f1
   have b2 : w2.frozen? ⟨g, k * 4 + 2, none⟩ = false := (hf2 _).trans f2
   have b3 : w2.frozen? ⟨g, k * 4 + 3, none⟩ = false := (hf2 _).trans f3
   have HOW := Lib.hid (own_kept HOX.out fun j hj hl => ht2.block j hl (fun e => by
    have : j = g := by simp only [Value.ownBlock, Option.some.injEq] at hj; exact hj.symm
    subst this
    exact HGX.out e))
   have HT2 := Lib.hid ht2
   clear d0 d1 d2 d3 f0 f1 f2 f3 hk2 hf2 ht2
   go_wp2
   go_roundw
   case rel =>
    have hchain := ((((HOW.out.stored (k * 4) (.int .i64 (-9))).1.stored (k * 4 + 1) (.int .i64 0)).1.stored (k * 4 + 2) (.int .i64 0)).1.stored (k * 4 + 3) (.slice none 0 0)).1
    rw [set4 HP.out rfl] at hchain
    refine ⟨k + 1, pre ++ [.int .i64 (-9), .int .i64 0, .int .i64 0, .slice none 0 0], by go_num, by omega, ?_, Lib.hid hchain, ?_⟩
    ·show _ = _
     rw [List.length_append, HP.out]
     show k * 4 + 4 = (k + 1) * 4
     omega
    ·have h1 : Touch (fun j => (Value.slice (some ⟨g, 0, none⟩) n c).ownBlock = some j ∨ ∃ y ∈ hs.take (k + 1), y.2.v.ownBlock = some j) w w2 := (HT.out.mono fun j hj => hj.imp id (fun ⟨y, hy, e⟩ => ⟨y, List.take_subset_take_left hs (Nat.le_succ k) hy, e⟩)).on (HT2.out.mono fun j hj => .inr ⟨x, List.mem_of_getElem? (by rw [List.getElem?_take, if_pos (Nat.lt_succ_self k)]; exact HX.out), hj⟩)
     exact (((h1.set (.inl (.inl rfl)) _).set (.inl (.inl rfl)) _).set (.inl (.inl rfl)) _).set (.inl (.inl rfl)) _
   case measure => simp [intOf]; omega
  ·have i1 : ¬ ((k : Int) < (n : Int)) := by omega
   have HTE : Hid (Touch F w wr) := HT.out.mono fun j hj => HFF.out j (hj.imp id (fun ⟨y, hy, e⟩ => ⟨y, List.mem_of_mem_take hy, e⟩))
   go_wp2_with fail
   go_end0
   exact ⟨rfl, HTE.out⟩

end Go.Proofs.YteepobghdpnabaaGreat
namespace Go.Proofs.YteepobghdpnabaaGreat
open Go.RowKit

theorem RowIn.cells {α : Type} {K : Kd α} {k : Nat} {w : World} {a : Ad} {ms : List (α × Ad)} {x : α × Ad} (h : RowIn K w a ms) (hx : ms[k]? = some x) : ∃ b off, a.A = some ⟨b, off, none⟩ ∧ b < w.heap.size ∧ k < a.n ∧ ∀ j v, (K.cells x.1 x.2.v)[j]? = some v → w.cell? ⟨b, off + (k * K.s + j), none⟩ = some v := by
 have hk : k < ms.length := (List.getElem?_eq_some_iff.1 hx).1
 obtain ⟨b, off, hA, hb, hc⟩ := h.row.rd.open_ (by rw [cellsK_length]; exact Nat.mul_pos (by omega) K.pos)
 exact ⟨b, off, hA, hb, by have := h.row.len; omega, fun j v hj => hc _ v (cellsK_at K hx hj)⟩
end Go.Proofs.YteepobghdpnabaaGreat
