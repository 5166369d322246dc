/-
 A number more in a rising list, by the page's helper.
-/
import Derived.Test.YteepobghdpnabaaGreatKDi
import Derived.Test.YteepobghdpnabaaGreatKYWorkerToldd
namespace Go.Proofs.YteepobghdpnabaaGreat
open Go.RowKit

def WithTo (S : List Int) (n : Int) (o : Ad) (w : World) (e : Ending) (w' : World) : Prop :=
 (n ∈ S ∧ e = .returned o.v ∧ w = w') ∨ (n ∉ S ∧ ∃ o' : Ad, e = .returned o'.v ∧ w'.ownsRow w.heap.size 3 1 o'.v o'.n (i64s (withI S n)) ∧ (withI S n).length = o'.n ∧ Below w.heap.size w w')
theorem rd_dropZ {w : World} {A : Option Addr} {n c p : Nat} {S : List Int} (h : Rd w A (i64s S)) (hl : S.length = n) (hc : n ≤ c) (hp : p ≤ n) : Rd w (restA A c p 1) (i64s (S.drop p)) := by
  intro hne
  have hpn : p < n := by
    rcases Nat.lt_or_ge p n with h1 | h1
    · exact h1
    · rw [List.drop_of_length_le (by omega)] at hne
      exact absurd rfl hne
  obtain ⟨b, off, rfl, hb, hcl⟩ := h.open_ (by rw [i64s_length, hl]; omega)
  refine ⟨b, off + p * 1, ?_, hb, fun i v hi => ?_⟩
  · rw [restA, if_neg (by omega)]
    rfl
  · have e : i64s (S.drop p) = (i64s S).drop p := by simp [i64s, List.map_drop]
    rw [e, List.getElem?_drop] at hi
    rw [Nat.mul_one, Nat.add_assoc]
    exact hcl _ v hi

set_option maxRecDepth 100000 in
set_option maxHeartbeats 8000000 in
theorem rwith_any (o : Ad) (S : List Int) (n : Int) (w : World) (hA : o.A = none ∨ ∃ g', o.A = some ⟨g', 0, none⟩) (hC : o.A = none → o.c = 0) (h : SlIn w o S.length (i64s S)) (hr : RiseI S) (hn : S.length ≤ 1000000) : Calls Tryz.prog 98 #[o.v, .int .i64 n] w (WithTo S n o w) := by
  obtain ⟨A, m, c⟩ := o
  have HA : Hid (A = none ∨ ∃ g', A = some ⟨g', 0, none⟩) := hA
  have HC : Hid (A = none → c = 0) := hC
  clear hA hC
  have hz : S.length = m := h.len
  have hcap : m ≤ c := h.cap
  have HZ := Lib.hid hz
  have HRD := Lib.hid h.rd
  have HIN := Lib.hid (rin_is A m c S n w hz h.rd (by omega))
  have HRS := Lib.hid hr
  have hm2 : m ≤ 1000000 := by omega
  unfold Ad.v
  by_cases hm : n ∈ S
  · obtain ⟨r, hr'⟩ : ∃ r, r = idxI S n := ⟨_, rfl⟩
    have j0 : 0 ≤ r := by rw [hr']; exact idxI_ge.2 hm
    rw [← hr'] at HIN
    have HM := Lib.hid hm
    clear hm h hz hr hr' hn
    go_enter Tryz.func98, Tryz.ntmps98
    go_wp2_with (go_at_call 75; refine HIN.out.mono ?_; rintro e w' ⟨rfl, rfl⟩)
    go_ret
    exact .inl ⟨HM.out, rfl, rfl⟩
  · rw [idxI_no hm] at HIN
    obtain ⟨p, hp⟩ : ∃ p, p = posI S n := ⟨_, rfl⟩
    have hpn : p ≤ m := by have := posI_le S n; omega
    have HPO := Lib.hid hp
    have HM := Lib.hid hm
    have HWI : Hid (withI S n = insAt S p n) := by show _ = _; rw [withI, if_neg hm, hp]
    clear hm h hz hr hn hp
    go_enter Tryz.func98, Tryz.ntmps98
    go_wp2_with (go_at_call 75; refine HIN.out.mono ?_; rintro e w' ⟨rfl, rfl⟩)
    go_loop [5] (fun i => ∃ k : Nat, i = .int .i64 k ∧ k ≤ p) (fun i => m - (intOf i).toNat)
    case atStart => exact ⟨0, rfl, Nat.zero_le _⟩
    case round =>
      obtain ⟨k, rfl, hk⟩ := hrel
      have i0 : (0 : Int) ≤ (k : Int) := by omega
      go_upto_region 4 with fail
      go_cut [23] from 12 to 22 (fun bv wx => bv = .bool (decide (k < p)) ∧ w = wx)
      case first =>
        by_cases hlt : k < m
        · have i1 : (k : Int) < (m : Int) := by omega
          obtain ⟨b, off, hA, hbl, hcell⟩ := HRD.out.open_ (by rw [i64s_length, HZ.out]; omega)
          subst hA
          have hc1 := hcell k _ (i64s_at (by rw [HZ.out]; exact hlt))
          have hm : S[k]? = some (S[k]?.getD 0) := at_some (by rw [HZ.out]; exact hlt)
          obtain ⟨y, hy⟩ : ∃ y, y = S[k]?.getD 0 := ⟨_, rfl⟩
          rw [← hy] at hc1 hm
          have HD : Hid (decide (y < n) = decide (k < p)) := by
            rw [decide_eq_decide, HPO.out]
            constructor
            · intro h
              rcases Nat.lt_or_ge k (posI S n) with h1 | h1
              · exact h1
              · have e : k = posI S n := by have := HPO.out; omega
                rw [e] at hm
                have := posI_at hm
                omega
            · exact fun h => posI_below h hm
          clear hm hy hcell
          obtain ⟨bl, hb⟩ : ∃ bl, bl = decide (k < p) := ⟨_, rfl⟩
          have hdd : decide (y < n) = bl := HD.out.trans hb.symm
          have HBL := Lib.hid hb
          clear hb
          cases bl with
          | true =>
            have l1 : y < n := of_decide_eq_true hdd
            clear hdd
            go_wp2_with fail
            go_meet
            exact ⟨by rw [← HBL.out], rfl⟩
          | false =>
            have l1 : ¬ (y < n) := of_decide_eq_false hdd
            clear hdd
            go_wp2_with fail
            go_meet
            exact ⟨by rw [← HBL.out], rfl⟩
        · have i1 : ¬ ((k : Int) < (m : Int)) := by omega
          have HBL : Hid (decide (k < p) = false) := decide_eq_false (by omega)
          go_wp2_with fail
          go_meet
          exact ⟨by rw [HBL.out], rfl⟩
      case rest =>
      obtain ⟨rfl, rfl⟩ := hcut
      by_cases hkp : k < p
      · rw [decide_eq_true hkp]
        go_wp2_with fail
        go_round
        case rel => exact ⟨k + 1, by go_num, by omega⟩
        case measure => simp [intOf]; omega
      · obtain rfl : k = p := by omega
        rw [decide_eq_false hkp]
        clear hkp hk
        have iP : (k : Int) ≤ (m : Int) := by omega
        have iC : (k : Int) ≤ (c : Int) := by omega
        have HCP := Lib.hid (copyNumbers_any A c k (S.take k) w (by rw [List.length_take, HZ.out]; omega) (by rw [show i64s (S.take k) = (i64s S).take k by simp [i64s, List.map_take]]; exact rd_takeZ HRD.out k) (by omega) (by omega))
        go_upto_region 6 with fail
        have hl5 : (i64s (S.take k)).length = k := by rw [i64s_length, List.length_take, HZ.out]; omega
        have HL5 := Lib.hid hl5
        clear hl5
        go_upto_region 7 with (first
          | (go_at_call 29
             refine HCP.out.mono ?_
             rintro e w5 ⟨v5, rfl, ho5, hb5⟩
             rw [HL5.out] at ho5
             obtain ⟨A5, c5, rfl, -⟩ := own_val ho5
             have HO5 := Lib.hid ho5
             have HB5 := Lib.hid hb5
             have HBN : Hid (Below w.heap.size w (w5.alloc (.cells #[.int .i64 n] 3))) := hb5.alloc hb5.size _
             have hr6 := run_app_rowsZ (P := Tryz.prog) (w5.alloc (.cells #[.int .i64 n] 3)) 25 25 w.heap.size 3 (.int .i64 0) 1 8 Tryz.underlying25 info_zint rfl (by decide) (by decide) (.slice A5 k c5) k (i64s (S.take k)) (HO5.out.alloc _) (some ⟨w5.heap.size, 0, none⟩) 1 1 [.int .i64 n] rfl (rd_new w5 [.int .i64 n] 3) (by intro u hu; rw [List.mem_singleton.1 hu]; rfl) (by omega) HBN.out.size
             obtain ⟨A6, c6, w6, hr6, ho6, hg6, -⟩ := hr6
             have HR6 := Lib.hid hr6
             have HO6 := Lib.hid ho6
             have HB6 : Hid (Below w.heap.size w w6) := HBN.out.trans ((Touch.grown (F := fun j => (Value.slice A5 k c5).ownBlock = some j) hg6 fun j hj => hj).below (fun j hj => (own_lt HO5.out hj).2) HBN.out.size)
             clear ho5 hb5 hr6 ho6 hg6)
          | (at_builtin; refine wpList_app_run (v := .slice A5 k c5) (u := .slice (some ⟨w5.heap.size, 0, none⟩) 1 1) _ rfl _ _ 25 25 rfl rfl rfl HR6.out ?_))
        have hrd := rd_dropZ (p := k) (HRD.out.below HB6.out) HZ.out hcap hpn
        have hrun := fun (cc : Nat) => run_app_rowsZ (P := Tryz.prog) w6 25 25 w.heap.size 3 (.int .i64 0) 1 8 Tryz.underlying25 info_zint rfl (by decide) (by decide) (.slice A6 (k + 1) c6) (k + 1) (i64s (S.take k) ++ [.int .i64 n]) HO6.out (restA A c k 1) (m - k) cc (i64s (S.drop k)) (by rw [i64s_length, List.length_drop, HZ.out, Nat.mul_one]) hrd (i64s_one _) (by omega) HB6.out.size
        obtain ⟨A9, c9, w9, hr9, ho9, hg9, -⟩ := hrun (c - k)
        have HRUN := Lib.hid hr9
        have hrow : i64s (S.take k) ++ [.int .i64 n] ++ i64s (S.drop k) = i64s (withI S n) := by rw [HWI.out]; simp [insAt, i64s, List.map_take, List.map_drop]
        have hlen : (withI S n).length = k + 1 + (m - k) := by rw [HWI.out, insAt_length _ _ _ (by rw [HZ.out]; exact hpn), HZ.out]; omega
        have hfin : WithTo S n ⟨A, m, c⟩ w (.returned (.slice A9 (k + 1 + (m - k)) c9)) w9 := .inr ⟨HM.out, ⟨A9, k + 1 + (m - k), c9⟩, rfl, by rw [← hrow]; exact ho9, hlen, HB6.out.trans ((Touch.grown (F := fun j => (Value.slice A6 (k + 1) c6).ownBlock = some j) hg9 fun j hj => hj).below (fun j hj => (own_lt HO6.out hj).2) HB6.out.size)⟩
        have HFIN := Lib.hid hfin
        clear hrd hrun hr9 ho9 hg9 hrow hlen hfin
        by_cases hcp : c = k
        · have e1 : restA A c k 1 = A := by rw [restA, if_pos hcp]
          rw [e1] at HRUN
          subst hcp
          obtain rfl : m = c := by omega
          rw [Nat.sub_self] at HRUN HFIN
          cases A with
          | none =>
            go_wp2_with (at_builtin; refine wpList_app_run (v := .slice A6 (m + 1) c6) (u := .slice none 0 0) _ rfl _ _ 25 25 rfl rfl rfl HRUN.out ?_)
            go_ret
            exact HFIN.out
          | some ad =>
            go_wp2_with (at_builtin; refine wpList_app_run (v := .slice A6 (m + 1) c6) (u := .slice (some ad) 0 0) _ rfl _ _ 25 25 rfl rfl rfl HRUN.out ?_)
            go_ret
            exact HFIN.out
        · have hex : ∃ bA oA, A = some ⟨bA, oA, none⟩ := by
            have hpos : 0 < c := by omega
            rcases HA.out with e | ⟨g', e⟩
            · have := HC.out e; omega
            · exact ⟨g', 0, e⟩
          obtain ⟨bA, oA, rfl⟩ := hex
          have e1 : restA (some ⟨bA, oA, none⟩) c k 1 = some ⟨bA, oA + k * 1, none⟩ := by rw [restA, if_neg hcp]; rfl
          rw [e1, Nat.mul_one] at HRUN
          go_wp2_with (at_builtin; refine wpList_app_run (v := .slice A6 (k + 1) c6) (u := .slice (some ⟨bA, oA + k, none⟩) (m - k) (c - k)) _ rfl _ _ 25 25 rfl rfl rfl HRUN.out ?_)
          go_ret
          exact HFIN.out

end Go.Proofs.YteepobghdpnabaaGreat
namespace Go.Proofs.YteepobghdpnabaaGreat
open Go.RowKit

theorem StAt.setWait {g B gr i : Nat} {w w1 : World} {P : WkD} {a : WkA} {l : List OtD} {o oy : Ad} {ms : List (OtD × Ad)} {x : WtD × Ad} {y : WtD} (h : StAt g B w P a l o ms) (hx : a.ms[i]? = some x) (hb : Below w.heap.size w w1) (ho : w1.ownsRow B 3 1 oy.v oy.n (i64s y.S)) (hl : y.S.length = oy.n)
  (hbk : ∀ k, oy.v.ownBlock = some k → x.2.v.ownBlock = some k ∨ w.heap.size ≤ k) (hc : y.d = x.1.d) (hgr : a.W.v.ownBlock = some gr) :
  StAt g B (w1.setCell ⟨gr, i * 2 + 1, none⟩ oy.v) { P with W := P.W.set i y } { a with ms := a.ms.set i (y, oy) } l o ms ∧ Touch (fun k => k = gr) w (w1.setCell ⟨gr, i * 2 + 1, none⟩ oy.v) := by
 have hxm := List.mem_of_getElem? hx
 have h1 := h.below hb
 have Tg : Touch (fun k => k = gr) w1 (w1.setCell ⟨gr, i * 2 + 1, none⟩ oy.v) := (Touch.refl (fun j => j = gr) w1).set (.inl rfl) oy.v
 have TW : Touch (fun k => a.W.v.ownBlock = some k) w1 (w1.setCell ⟨gr, i * 2 + 1, none⟩ oy.v) := Tg.mono fun k hk => by rw [show k = gr from hk]; exact hgr
 have hrow : RowOwn KW B (w1.setCell ⟨gr, i * 2 + 1, none⟩ oy.v) a.W (a.ms.set i (y, oy)) := h.pg.core.waits.put (K := KW) hx (Touch.of hb) ho hl hbk (fun v => by show [Value.int .i64 y.d, v] = [Value.int .i64 x.1.d, v]; rw [hc]) hgr
 have hgg : gr ≠ g := h.far0 gr (.inl (.inl hgr))
 have hgl := h.box.1
 have hmem : ∀ z ∈ a.ms.set i (y, oy), ∀ k, z.2.v.ownBlock = some k → (∃ z' ∈ a.ms, z'.2.v.ownBlock = some k) ∨ w.heap.size ≤ k := by
  intro z hz k hk
  obtain ⟨j, hj⟩ := List.mem_iff_getElem?.1 hz
  by_cases hji : i = j
  ·subst hji
   rw [List.getElem?_set_self (List.getElem?_eq_some_iff.1 hx).1] at hj
   cases hj
   rcases hbk k hk with e | e
   ·exact .inl ⟨x, hxm, e⟩
   ·exact .inr e
  ·rw [List.getElem?_set_ne hji] at hj
   exact .inl ⟨z, List.mem_of_getElem? hj, hk⟩
 have hpg := h1.pg.setW (L := P.W.set i y) TW hrow (by rw [List.map_set, h.pg.core.eW]) (fun z hz k hk hk2 => by
  rcases hmem z hz k hk2 with ⟨z', hz', e⟩ | e
  ·exact h.pg.core.apR z' hz' k hk e
  ·have := (own_lt h.pg.core.ready hk).1; omega)
 have hno : ∀ k, stHas { a with ms := a.ms.set i (y, oy) } o ms k → k ≠ g := by
  rintro k ((hk | hk | hk | ⟨z, hz, hk⟩ | hk) | hk | hk | hk)
  ·exact h.far0 k (.inl (.inl hk))
  ·exact h.far0 k (.inl (.inr (.inl hk)))
  ·exact h.far0 k (.inl (.inr (.inr (.inl hk))))
  ·rcases hmem z hz k hk with ⟨z', hz', e⟩ | e
   ·exact h.far0 k (.inl (.inr (.inr (.inr (.inl ⟨z', hz', e⟩)))))
   ·omega
  ·exact h.far0 k (.inl (.inr (.inr (.inr (.inr hk)))))
  ·exact h.far0 k (.inr (.inl hk))
  ·exact h.far0 k (.inr (.inr (.inl hk)))
  ·exact h.far0 k (.inr (.inr (.inr hk)))
 refine ⟨⟨h1.box.touch Tg (fun e => hgg e.symm), hpg, h1.out.touch Tg (fun k hk hf => ?_) (fun z hz k hk hf => ?_), h.eO, hno, h.ap, h.gB, by have := h1.le; have := Tg.size; omega⟩, (Touch.of hb).on Tg⟩
 ·subst hf
  exact own_unlike h.out.row h.pg.core.waits.row (show KM.e ≠ KW.e by decide) hk hgr
 ·subst hf
  exact own_unlike (h.out.sub z hz).1 h.pg.core.waits.row (show KM.e2 ≠ KW.e by decide) hk hgr
def ackI (P : WkD) (d f : Int) (k : Nat) : WkD := { P with W := ((P.W.take k).map fun x => if x.d = d then { x with S := withI x.S f } else x) ++ P.W.drop k }
theorem ackI_zero (P : WkD) (d f : Int) : ackI P d f 0 = P := by simp [ackI]
theorem ackI_all {P : WkD} {d f : Int} {k : Nat} (h : P.W.length ≤ k) : ackI P d f k = ackW P d f := by
 unfold ackI ackW
 rw [List.take_of_length_le h, List.drop_of_length_le h, List.append_nil]
theorem ackI_at {P : WkD} {d f : Int} {k : Nat} : (ackI P d f k).W[k]? = P.W[k]? := by
 unfold ackI
 rcases Nat.lt_or_ge k P.W.length with h | h
 ·rw [List.getElem?_append_right (by rw [List.length_map, List.length_take]; omega), List.length_map, List.length_take, Nat.min_eq_left (by omega), Nat.sub_self, List.getElem?_drop, Nat.add_zero]
 ·rw [List.getElem?_eq_none (by rw [List.length_append, List.length_map, List.length_take, List.length_drop]; omega), List.getElem?_eq_none h]
theorem ackI_skip {P : WkD} {d f : Int} {k : Nat} {x : WtD} (hx : P.W[k]? = some x) (hd : x.d ≠ d) : ackI P d f (k + 1) = ackI P d f k := by
 obtain ⟨hl, he⟩ := List.getElem?_eq_some_iff.1 hx
 unfold ackI
 rw [List.take_add_one, hx, List.drop_eq_getElem_cons hl, he]
 simp [hd]
theorem ackI_put {P : WkD} {d f : Int} {k : Nat} {x : WtD} (hx : P.W[k]? = some x) (hd : x.d = d) : ackI P d f (k + 1) = { ackI P d f k with W := (ackI P d f k).W.set k { x with S := withI x.S f } } := by
 obtain ⟨hl, he⟩ := List.getElem?_eq_some_iff.1 hx
 have hlen : (((P.W.take k).map fun x => if x.d = d then { x with S := withI x.S f } else x)).length = k := by rw [List.length_map, List.length_take]; omega
 unfold ackI
 simp only
 congr 1
 rw [List.set_append_right _ _ (by omega), hlen, Nat.sub_self, List.take_add_one, hx, List.drop_eq_getElem_cons hl, he]
 simp [hd]

end Go.Proofs.YteepobghdpnabaaGreat
