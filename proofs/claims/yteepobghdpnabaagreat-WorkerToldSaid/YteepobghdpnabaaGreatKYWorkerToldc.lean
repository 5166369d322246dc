/-
 Package worker's acknowledge: one node more keeps a batch.
-/
import Derived.Test.YteepobghdpnabaaGreatKYWorkerToldb
import Derived.Test.YteepobghdpnabaaGreatKDd
namespace Go.Proofs.YteepobghdpnabaaGreat
open Go.RowKit

/-! ### numbers in rising lists -/
theorem lessI_any (a b : Int) (w : World) : Calls Tryz.prog 153 #[.int .i64 a, .int .i64 b] w fun e w' => e = .returned (.bool (decide (a < b))) ∧ w = w' := by
 go_enter Tryz.func153, Tryz.ntmps153
 go_wp2_with (go_at_call 141; refine (isNaNI_any _ _).mono ?_; rintro e w' ⟨rfl, rfl⟩)
 go_ret
 exact ⟨rfl, rfl⟩
theorem isNaNs_any (a : Int) (w : World) : Calls Tryz.prog 154 #[.int .i64 a] w fun e w' => e = .returned (.bool false) ∧ w = w' := by
 have h : (a != a) = false := by simp
 go_enter Tryz.func154, Tryz.ntmps154
 go_wp2
 go_ret
 exact ⟨rfl, rfl⟩
set_option maxRecDepth 100000 in
set_option maxHeartbeats 4000000 in
theorem bsearch_any (A : Option Addr) (n c : Nat) (l : List Int) (t : Int) (w : World) (hz : l.length = n) (hr : Rd w A (i64s l)) (hn : n ≤ 1000000) (hri : RiseI l) :
    Calls Tryz.prog 138 #[.slice A n c, .int .i64 t] w fun e w' => e = .returned (.tuple #[.int .i64 (posI l t), .bool (decide (t ∈ l))]) ∧ w' = w := by
  have HN := Lib.hid hz
  have HR := Lib.hid hri
  have HRD := Lib.hid hr
  clear hz hri hr
  go_enter Tryz.func138, Tryz.ntmps138
  go_wp2
  go_loopw [7, 8] (fun i j wr => ∃ lo hi : Nat, i = .int .i64 lo ∧ j = .int .i64 hi ∧ lo ≤ hi ∧ hi ≤ n ∧ Hid (∀ k a, k < lo → l[k]? = some a → a < t) ∧ Hid (∀ k a, hi ≤ k → l[k]? = some a → t ≤ a) ∧ wr = w) (fun i j _ => ((intOf j) - (intOf i)).toNat)
  case atStart => exact ⟨0, n, rfl, rfl, by omega, by omega, fun k a hk => by omega, fun k a hk ha => by
    have := (List.getElem?_eq_some_iff.1 ha).1
    rw [HN.out] at this
    omega, rfl⟩
  case round =>
    obtain ⟨lo, hi, rfl, rfl, hlh, hin, HA, HB, rfl⟩ := hrel
    by_cases hlt : lo < hi
    · obtain ⟨b, off, rfl, hbl, hcell⟩ := HRD.out.open_ (by rw [i64s_length, HN.out]; omega)
      have hc1 := hcell ((lo + hi) / 2) _ (i64s_at (by rw [HN.out]; omega))
      have hm : l[(lo + hi) / 2]? = some (l[(lo + hi) / 2]?.getD 0) := at_some (by rw [HN.out]; omega)
      obtain ⟨m, hme⟩ : ∃ m, m = l[(lo + hi) / 2]?.getD 0 := ⟨_, rfl⟩
      rw [← hme] at hc1 hm
      have HM := Lib.hid hm
      clear hm hme hcell
      by_cases hls : m < t
      · have HLS := Lib.hid hls
        have hdl : decide (m < t) = true := decide_eq_true hls
        clear hls
        go_wp2_with (go_at_call 153; refine (lessI_any _ _ _).mono ?_; rw [hdl]; rintro e w' ⟨rfl, rfl⟩)
        go_roundw
        case rel =>
          refine ⟨(lo + hi) / 2 + 1, hi, ?_, rfl, by omega, hin, fun k a hk ha => ?_, HB.out, trivial⟩
          · rw [show ((lo : Int) + (hi : Int)) / 2 + 1 = (((lo + hi) / 2 + 1 : Nat) : Int) by omega]
          · rcases Nat.lt_or_ge k ((lo + hi) / 2) with h2 | h2
            · have h3 := HR.out _ _ _ _ h2 ha HM.out
              have h4 := HLS.out
              omega
            · have : k = (lo + hi) / 2 := by omega
              subst this
              rw [HM.out] at ha
              cases ha
              exact HLS.out
        case measure => simp [intOf]; omega
      · have HLS : Hid (t ≤ m) := by show t ≤ m; omega
        have hdl : decide (m < t) = false := decide_eq_false hls
        clear hls
        go_wp2_with (go_at_call 153; refine (lessI_any _ _ _).mono ?_; rw [hdl]; rintro e w' ⟨rfl, rfl⟩)
        go_roundw
        case rel =>
          refine ⟨lo, (lo + hi) / 2, rfl, ?_, by omega, by omega, HA.out, fun k a hk ha => ?_, trivial⟩
          · rw [show ((lo : Int) + (hi : Int)) / 2 = (((lo + hi) / 2 : Nat) : Int) by omega]
          · rcases Nat.lt_or_ge ((lo + hi) / 2) k with h2 | h2
            · have h3 := HR.out _ _ _ _ h2 HM.out ha
              have h4 := HLS.out
              omega
            · have : k = (lo + hi) / 2 := by omega
              subst this
              rw [HM.out] at ha
              cases ha
              exact HLS.out
        case measure => simp [intOf]; omega
    · obtain rfl : lo = hi := by omega
      have i0 : ¬ ((lo : Int) < (lo : Int)) := by omega
      clear hlt hlh
      have hp : lo = posI l t := posI_unique (by rw [HN.out]; exact hin) (fun k a hk ha => HA.out k a hk ha) (fun a ha => by have := HB.out lo a (Nat.le_refl _) ha; omega)
      have HP := Lib.hid hp
      clear hp
      by_cases hn2 : lo < n
      · obtain ⟨b, off, rfl, hbl, hcell⟩ := HRD.out.open_ (by rw [i64s_length, HN.out]; omega)
        have hc1 := hcell lo _ (i64s_at (by rw [HN.out]; exact hn2))
        have hm : l[lo]? = some (l[lo]?.getD 0) := at_some (by rw [HN.out]; exact hn2)
        obtain ⟨m, hme⟩ : ∃ m, m = l[lo]?.getD 0 := ⟨_, rfl⟩
        rw [← hme] at hc1 hm
        have i1 : (lo : Int) < (n : Int) := by omega
        have hh : Hid (decide (t ∈ l) = (m == t)) := by
          show decide (t ∈ l) = (m == t)
          rw [Bool.eq_iff_iff]
          simp only [decide_eq_true_eq, beq_iff_eq]
          rw [mem_posI HR.out, ← HP.out, hm]
          simp
        clear hm hme hcell
        by_cases hmt : m = t
        · have j1 : (m == t) = true := by simp [hmt]
          have HJ := Lib.hid j1
          clear hmt
          go_wp2_with (go_at_call 154; refine (isNaNs_any _ _).mono ?_; rintro e w' ⟨rfl, rfl⟩)
          go_ret2
          refine ⟨?_, rfl⟩
          rw [hh.out, ← HP.out, HJ.out]
          rfl
        · have j1 : (m == t) = false := by simp [hmt]
          have HJ := Lib.hid j1
          clear hmt
          go_wp2_with (go_at_call 154; refine (isNaNs_any _ _).mono ?_; rintro e w' ⟨rfl, rfl⟩)
          go_ret2
          refine ⟨?_, rfl⟩
          rw [hh.out, ← HP.out, HJ.out]
          rfl
      · have i1 : ¬ ((lo : Int) < (n : Int)) := by omega
        have hh : Hid (decide (t ∈ l) = false) := by
          show decide (t ∈ l) = false
          rw [decide_eq_false_iff_not, mem_posI HR.out, ← HP.out, List.getElem?_eq_none (by rw [HN.out]; omega)]
          simp
        go_wp2_with fail
        go_ret2
        refine ⟨?_, rfl⟩
        rw [hh.out, ← HP.out]
        rfl

/-! ### one list of a row turned -/
theorem WNew.setWait {B i gr : Nat} {w w1 : World} {P : WkD} {a : WkA} {o : Ad} {x : WtD × Ad} {y : WtD} (h : WNew B w P a) (hx : a.ms[i]? = some x) (ht : Touch (fun k => x.2.v.ownBlock = some k) w w1) (ho : w1.ownsRow B 3 1 o.v o.n (i64s y.S)) (hl : y.S.length = o.n)
  (hb : ∀ k, o.v.ownBlock = some k → x.2.v.ownBlock = some k ∨ w.heap.size ≤ k) (hc : y.d = x.1.d) (hgr : a.W.v.ownBlock = some gr) : WNew B (w1.setCell ⟨gr, i * 2 + 1, none⟩ o.v) { P with W := P.W.set i y } { a with ms := a.ms.set i (y, o) } := by
 have hxm := List.mem_of_getElem? hx
 have c := h.core
 have hrow := c.waits.put (y := y) (o := o) hx ht ho hl hb (fun v => by show [Value.int .i64 y.d, v] = [Value.int .i64 x.1.d, v]; rw [hc]) hgr
 have hxs := (c.waits.sub x hxm).1
 have hT : Touch (fun k => x.2.v.ownBlock = some k ∨ k = gr) w (w1.setCell ⟨gr, i * 2 + 1, none⟩ o.v) := (ht.mono fun _ hk => .inl hk).set (.inl (.inr rfl)) o.v
 have hW : ∀ {B' e s n : Nat} {v : Value} {xs : List Value}, w.ownsRow B' e s v n xs → e ≠ KW.e → (∀ k, x.2.v.ownBlock = some k → v.ownBlock ≠ some k) → (w1.setCell ⟨gr, i * 2 + 1, none⟩ o.v).ownsRow B' e s v n xs := fun hv he hn => own_kept hv fun g hg hlt => hT.block g hlt fun hf => by
  rcases hf with hf | hf
  ·exact hn g hf hg
  ·subst hf
   exact own_unlike c.waits.row hv (Ne.symm he) hgr hg
 refine ⟨⟨hrow, by rw [List.map_set, c.eW], ⟨hW c.held.row (show KH.e ≠ KW.e by decide) fun k hk => own_unlike hxs c.held.row (show KW.e2 ≠ KH.e by decide) hk, c.held.len, fun z hz => ⟨hW (c.held.sub z hz).1 (show KH.e2 ≠ KW.e by decide) fun k hk => own_unlike hxs (c.held.sub z hz).1 (show KW.e2 ≠ KH.e2 by decide) hk, (c.held.sub z hz).2⟩, c.held.nod⟩, c.eH,
  hW c.ready (show 3 ≠ KW.e by decide) fun k hk hk2 => c.apR x hxm k hk2 hk, c.rL, fun z hz k hk hk2 => ?_⟩, hW h.open_ (show 40 ≠ KW.e by decide) fun k hk => own_unlike hxs h.open_ (show KW.e2 ≠ 40 by decide) hk, h.oL, h.apO⟩
 obtain ⟨j, hj⟩ := List.mem_iff_getElem?.1 hz
 by_cases hji : i = j
 ·subst hji
  rw [List.getElem?_set_self (List.getElem?_eq_some_iff.1 hx).1] at hj
  cases hj
  rcases hb k hk2 with e | e
  ·exact c.apR x hxm k hk e
  ·have := (own_lt c.ready hk).1
   omega
 ·rw [List.getElem?_set_ne hji] at hj
  exact c.apR z (List.mem_of_getElem? hj) k hk hk2

/-! ### acknowledge -/
theorem ack_none {P : WkD} {d f : Int} (h : d ∉ P.ds) : ackW P d f = P := by
 have e : P.W.map (fun x => if x.d = d then { x with S := withI x.S f } else x) = P.W := by
  conv => rhs; rw [← List.map_id P.W]
  refine List.map_congr_left fun x hx => ?_
  rw [if_neg (fun e => h (by rw [← e]; exact List.mem_map_of_mem hx))]
  rfl
 unfold ackW
 rw [e]
theorem ack_at {P : WkD} {d f : Int} {i : Nat} {x : WtD} (hr : RiseI P.ds) (hx : P.W[i]? = some x) (hd : x.d = d) : ackW P d f = { P with W := P.W.set i { x with S := withI x.S f } } := by
 unfold ackW
 congr 1
 apply List.ext_getElem?
 intro j
 rw [List.getElem?_map]
 by_cases hij : i = j
 ·subst hij
  rw [List.getElem?_set_self (List.getElem?_eq_some_iff.1 hx).1, hx]
  simp [hd]
 ·rw [List.getElem?_set_ne hij]
  cases hj : P.W[j]? with
  | none => rfl
  | some y =>
   have hy : P.ds[j]? = some y.d := by rw [WkD.ds, List.getElem?_map, hj]; rfl
   have hxx : P.ds[i]? = some x.d := by rw [WkD.ds, List.getElem?_map, hx]; rfl
   have hne : y.d ≠ d := fun e => by
    rcases Nat.lt_or_gt_of_ne hij with h1 | h1
    ·have := hr i j _ _ h1 hxx hy; omega
    ·have := hr j i _ _ h1 hy hxx; omega
   simp [hne]

theorem putI (l : List Int) (f : Int) (i : Nat) : putInI (i64s l) [.int .i64 f] i = i64s (insAt l i f) := by
 simp [putInI, insAt, i64s, List.map_take, List.map_drop]
theorem ack_end {B g gr p : Nat} {w w1 w4 : World} {P : WkD} {a : WkA} {x : WtD × Ad} {o : Ad} {d f : Int} (h : WAt B g w1 P a) (hr : RiseI P.ds) (hx : a.ms[p]? = some x) (hd : x.1.d = d) (hS : f ∉ x.1.S) (ht : Touch (fun k => x.2.v.ownBlock = some k) w1 w4)
  (ho : w4.ownsRow B 3 1 o.v o.n (i64s (insAt x.1.S (posI x.1.S f) f))) (hn : o.n = x.2.n + 1) (hb : ∀ k, o.v.ownBlock = some k → x.2.v.ownBlock = some k ∨ w1.heap.size ≤ k) (hgr : a.W.v.ownBlock = some gr) (hT : Touch (fun k => k = g ∨ B ≤ k) w w1) :
  WAt B g (w4.setCell ⟨gr, p * 2 + 1, none⟩ o.v) (ackW P d f) { a with ms := a.ms.set p ({ x.1 with S := withI x.1.S f }, o) } ∧ Touch (fun k => k = g ∨ B ≤ k) w (w4.setCell ⟨gr, p * 2 + 1, none⟩ o.v) := by
 have hxm := List.mem_of_getElem? hx
 have hxs := h.new.core.waits.sub x hxm
 have hPx : P.W[p]? = some x.1 := by rw [← h.new.core.eW, List.getElem?_map, hx]; rfl
 have hlt := h.lt
 have hle := h.le
 have hgB := (own_lt h.new.core.waits.row hgr).2
 have hxB : ∀ k, x.2.v.ownBlock = some k → B ≤ k := fun k hk => (own_lt hxs.1 hk).2
 have hw : withI x.1.S f = insAt x.1.S (posI x.1.S f) f := by rw [withI, if_neg hS]
 have hnew := h.new.setWait (y := { x.1 with S := withI x.1.S f }) (o := o) hx ht (by show w4.ownsRow _ _ _ _ _ (i64s (withI x.1.S f)); rw [hw]; exact ho) (by show (withI x.1.S f).length = _; rw [hw, insAt_length _ _ _ (posI_le _ _), hn]; have : x.1.S.length = x.2.n := hxs.2; omega) hb rfl hgr
 have hT2 : Touch (fun k => x.2.v.ownBlock = some k ∨ k = gr) w1 (w4.setCell ⟨gr, p * 2 + 1, none⟩ o.v) := (ht.mono fun _ hk => .inl hk).set (.inl (.inr rfl)) o.v
 have hsz := hT2.size
 rw [ack_at hr hPx hd]
 refine ⟨⟨h.box.touch hT2 fun hf => ?_, hnew, hlt, by omega⟩, hT.on (hT2.mono fun k hk => .inr ?_)⟩
 ·rcases hf with hf | hf
  ·have := hxB g hf; omega
  ·omega
 ·rcases hk with hk | hk
  ·exact hxB k hk
  ·omega

set_option maxRecDepth 100000 in
set_option maxHeartbeats 16000000 in
theorem ack_any (B g : Nat) (P : WkD) (a : WkA) (d f : Int) (w : World) (h : WAt B g w P a) (hr : RiseI P.ds) (hS : ∀ x ∈ P.W, RiseI x.S) (hf : WFew P 400000) :
    Calls Tryz.prog 102 #[.pointer (some ⟨g, 0, none⟩), .int .i64 d, .int .i64 f] w (WTo B g (ackW P d f) w) := by
  have hfind := findWait_any P a d w h.new.in_.waits h.new.in_.eW (by have := hf.w; omega) hr
  obtain ⟨p, hpe⟩ : ∃ p, p = posI P.ds d := ⟨_, rfl⟩
  have HP := Lib.hid hpe
  rw [← hpe] at hfind
  have HA := Lib.hid h
  have HRI := Lib.hid hr
  have hgl : g < w.heap.size := h.box.1
  by_cases hd : d ∈ P.ds
  · rw [decide_eq_true hd] at hfind
    have HFD := Lib.hid hfind
    have hda := (mem_posI hr).1 hd
    rw [← hpe] at hda
    rw [WkD.ds, List.getElem?_map, ← h.new.core.eW, List.getElem?_map] at hda
    obtain ⟨x, hx⟩ : ∃ x, a.ms[p]? = some x := by
      cases hq : a.ms[p]? with
      | none => rw [hq] at hda; simp at hda
      | some x => exact ⟨x, rfl⟩
    rw [hx] at hda
    have HX := Lib.hid hx
    have HXD : Hid (x.1.d = d) := by show x.1.d = d; simpa using hda
    have hxm := List.mem_of_getElem? hx
    have HRX : Hid (RiseI x.1.S) := hS _ (mem_fst h.new.core.eW hxm)
    have HFX : Hid (x.1.S.length ≤ 400000) := hf.s _ (mem_fst h.new.core.eW hxm)
    obtain ⟨gr, cr, hA, hcr, hBg, hgrl, hpn, hcell, hfr⟩ := h.new.core.waits.cells hx
    have k6 : w.cell? ⟨g, 6, none⟩ = some (.slice (some ⟨gr, 0, none⟩) a.W.n cr) := by
      have := (wk_cells h.box).2.2.2.2.2.2.1
      rwa [hA, hcr] at this
    have c1 : w.cell? ⟨gr, p * 2 + 1, none⟩ = some (.slice x.2.A x.2.n x.2.c) := hcell 1 _ rfl
    have f1 : w.frozen? ⟨gr, p * 2 + 1, none⟩ = false := hfr _
    have HGR : Hid (a.W.v.ownBlock = some gr) := by show a.W.v.ownBlock = some gr; rw [Ad.v, hA]; rfl
    have hnW : a.W.n ≤ 400000 := by have := h.new.core.waits.len; have := len_fst h.new.core.eW; have := hf.w; omega
    have hle := h.le
    have hltB := h.lt
    clear hfind hda hx hxm hA hcr hcell hfr hpe hr hf hS h hd
    have i0 : (0 : Int) ≤ (p : Int) := by omega
    have i1 : (p : Int) < (a.W.n : Int) := by omega
    go_enter Tryz.func102, Tryz.ntmps102
    go_upto_region 1 with (first
      | (refine wpList_load_box rfl 27 _ rfl g rfl (wkC P a) HA.out.box _ Tryz.underlying27 rfl size_wk ?_)
      | (go_at_call 93; refine HFD.out.mono ?_; rintro e w1 ⟨rfl, hb1⟩))
    have hA1 := HA.out.below hb1
    have HA1 := Lib.hid hA1
    have j6 := (hb1.cell (p := ⟨g, 6, none⟩) hgl).trans k6
    have d1 := (hb1.cell (p := ⟨gr, p * 2 + 1, none⟩) hgrl).trans c1
    have g1 := (hb1.frozen (p := ⟨gr, p * 2 + 1, none⟩) hgrl).trans f1
    have hgl1 : g < w1.heap.size := hA1.box.1
    have hgr1 : gr < w1.heap.size := by have := hb1.size; omega
    have hsubo := hA1.new.core.waits.sub x (List.mem_of_getElem? HX.out)
    have hsub := slIn_own hsubo.1 hsubo.2
    have hxn : x.1.S.length = x.2.n := hsub.len
    have HSO : Hid (w1.ownsRow B 3 1 (.slice x.2.A x.2.n x.2.c) x.2.n (i64s x.1.S)) := hsubo.1
    have HT1 : Hid (Touch (fun k => k = g ∨ B ≤ k) w w1) := Touch.of hb1
    have hbs := bsearch_any x.2.A x.2.n x.2.c x.1.S f w1 hsub.len hsub.rd (by have := HFX.out; omega) HRX.out
    have hq := posI_le x.1.S f
    obtain ⟨q, hqe⟩ : ∃ q, q = posI x.1.S f := ⟨_, rfl⟩
    have HQ := Lib.hid hqe
    rw [← hqe] at hbs hq
    have hqn : q ≤ x.2.n := by omega
    have hxn2 : x.2.n ≤ 400000 := by have := HFX.out; omega
    have hle1 := hA1.le
    clear k6 c1 f1 hb1 hA1 hsub hsubo hqe hq hxn
    by_cases hfS : f ∈ x.1.S
    · rw [decide_eq_true hfS] at hbs
      have HBS := Lib.hid hbs
      have HE : Hid (ackW P d f = P) := by
        show ackW P d f = P
        have hPx : P.W[p]? = some x.1 := by rw [← HA.out.new.core.eW, List.getElem?_map, HX.out]; rfl
        rw [ack_at HRI.out hPx HXD.out, withI, if_pos hfS, set_same hPx]
      clear hbs hfS
      go_wp2_with (go_at_call 138; refine HBS.out.mono ?_; rintro e w2 ⟨rfl, rfl⟩)
      go_end0
      exact ⟨a, rfl, by rw [HE.out]; exact HA1.out, HT1.out⟩
    · rw [decide_eq_false hfS] at hbs
      have HBS := Lib.hid hbs
      have HFS := Lib.hid hfS
      clear hbs hfS
      go_wp2_with (first
        | (go_at_call 138; refine HBS.out.mono ?_; rintro e w2 ⟨rfl, rfl⟩)
        | (go_at_call 139
           refine (insert_anyI B w2.heap.size x.2.n q (.slice x.2.A x.2.n x.2.c) (i64s x.1.S) [.int .i64 f] _ (ownS_below HSO.out ((Below.refl _ _).alloc (Nat.le_refl _) _)) (by simp; omega) hqn (by omega) (i64s_one _) rfl (heap_alloc_new _ _) (by intro u hu; simp at hu; rw [hu]; rfl) (fun hk => by have := (own_lt HSO.out hk).1; omega)).mono ?_
           rintro e w4 ⟨v4, rfl, hown, hgrw, hat⟩
           obtain ⟨A4, c4, rfl, _⟩ := ownS_slice hown
           have hT : Touch (fun k => x.2.v.ownBlock = some k) w2 w4 := ((Touch.refl (fun k => x.2.v.ownBlock = some k) w2).alloc _).on (Touch.grown hgrw fun k hk => hk)
           have hng : ¬ (x.2.v.ownBlock = some gr) := fun hk => own_unlike HSO.out HA1.out.new.core.waits.row (show 3 ≠ KW.e by decide) hk HGR.out
           have g4 := (hT.frozen (b := gr) (o := p * 2 + 1) hgr1 hng).trans g1
           have d4 := (hT.cell (b := gr) (o := p * 2 + 1) hgr1 hng).trans d1))
      go_end0
      have hend := ack_end (o := ⟨A4, x.2.n + 1, c4⟩) HA1.out HRI.out HX.out HXD.out HFS.out hT (by rw [← HQ.out, ← putI]; exact hown) rfl (fun k hk => by
        rcases hat with e | e
        · exact .inl (e.symm.trans hk)
        · rw [Ad.v, e] at hk
          cases hk
          exact .inr (by simp)) HGR.out HT1.out
      exact ⟨_, rfl, hend.1, hend.2⟩
  · have HE : Hid (ackW P d f = P) := ack_none hd
    rw [decide_eq_false hd] at hfind
    have HFD := Lib.hid hfind
    clear hfind hd hf hr hS hpe h
    go_enter Tryz.func102, Tryz.ntmps102
    go_wp2_with (first
      | (refine wpList_load_box rfl 27 _ rfl g rfl (wkC P a) HA.out.box _ Tryz.underlying27 rfl size_wk ?_)
      | (go_at_call 93; refine HFD.out.mono ?_; rintro e w1 ⟨rfl, hb1⟩))
    go_end0
    exact ⟨a, rfl, by rw [HE.out]; exact HA.out.below hb1, Touch.of hb1⟩

end Go.Proofs.YteepobghdpnabaaGreat
namespace Go.Proofs.YteepobghdpnabaaGreat
open Go

theorem yready_14 {P : Program} {md : Region.Mode} {Q : Exit → Act → World → Prop} {S : World → Prop} {o0 o1 o2 o3 o4 o5 o6 o7 o8 o9 o10 o11 o12 o13 o14 : Oper} {rest : List Oper} {fuel : Nat} {listed : Array Bool} {a : Act} {w : World}
  (hr : Region.ready md (o0 :: o1 :: o2 :: o3 :: o4 :: o5 :: o6 :: o7 :: o8 :: o9 :: o10 :: o11 :: o12 :: o13 :: o14 :: rest).toArray listed = [14])
  (h : ∀ K' : Act → World → Prop, Shut (∀ a w, S w → (S w → wpAnyH P md (o0 :: o1 :: o2 :: o3 :: o4 :: o5 :: o6 :: o7 :: o8 :: o9 :: o10 :: o11 :: o12 :: o13 :: o14 :: rest).toArray Q S fuel (listed.setIfInBounds 14 true) a w) → K' a w) → if Region.wanted o14 (yielded (o0 :: o1 :: o2 :: o3 :: o4 :: o5 :: o6 :: o7 :: o8 :: o9 :: o10 :: o11 :: o12 :: o13 :: o14 :: rest).toArray a.tmps) = true then Oper.wp P o14 a w K' Q else K' (a.put o14.dst undef) w) :
  wpAnyH P md (o0 :: o1 :: o2 :: o3 :: o4 :: o5 :: o6 :: o7 :: o8 :: o9 :: o10 :: o11 :: o12 :: o13 :: o14 :: rest).toArray Q S (fuel + 1) listed a w :=
 wpAnyH_ready hr (by simp) (AllReadyH.cons (i := 14) (o := o14) rfl h AllReadyH.nil)
theorem yready_17 {P : Program} {md : Region.Mode} {Q : Exit → Act → World → Prop} {S : World → Prop} {o0 o1 o2 o3 o4 o5 o6 o7 o8 o9 o10 o11 o12 o13 o14 o15 o16 o17 : Oper} {rest : List Oper} {fuel : Nat} {listed : Array Bool} {a : Act} {w : World}
  (hr : Region.ready md (o0 :: o1 :: o2 :: o3 :: o4 :: o5 :: o6 :: o7 :: o8 :: o9 :: o10 :: o11 :: o12 :: o13 :: o14 :: o15 :: o16 :: o17 :: rest).toArray listed = [17])
  (h : ∀ K' : Act → World → Prop, Shut (∀ a w, S w → (S w → wpAnyH P md (o0 :: o1 :: o2 :: o3 :: o4 :: o5 :: o6 :: o7 :: o8 :: o9 :: o10 :: o11 :: o12 :: o13 :: o14 :: o15 :: o16 :: o17 :: rest).toArray Q S fuel (listed.setIfInBounds 17 true) a w) → K' a w) → if Region.wanted o17 (yielded (o0 :: o1 :: o2 :: o3 :: o4 :: o5 :: o6 :: o7 :: o8 :: o9 :: o10 :: o11 :: o12 :: o13 :: o14 :: o15 :: o16 :: o17 :: rest).toArray a.tmps) = true then Oper.wp P o17 a w K' Q else K' (a.put o17.dst undef) w) :
  wpAnyH P md (o0 :: o1 :: o2 :: o3 :: o4 :: o5 :: o6 :: o7 :: o8 :: o9 :: o10 :: o11 :: o12 :: o13 :: o14 :: o15 :: o16 :: o17 :: rest).toArray Q S (fuel + 1) listed a w :=
 wpAnyH_ready hr (by simp) (AllReadyH.cons (i := 17) (o := o17) rfl h AllReadyH.nil)
theorem yready_20 {P : Program} {md : Region.Mode} {Q : Exit → Act → World → Prop} {S : World → Prop} {o0 o1 o2 o3 o4 o5 o6 o7 o8 o9 o10 o11 o12 o13 o14 o15 o16 o17 o18 o19 o20 : Oper} {rest : List Oper} {fuel : Nat} {listed : Array Bool} {a : Act} {w : World}
  (hr : Region.ready md (o0 :: o1 :: o2 :: o3 :: o4 :: o5 :: o6 :: o7 :: o8 :: o9 :: o10 :: o11 :: o12 :: o13 :: o14 :: o15 :: o16 :: o17 :: o18 :: o19 :: o20 :: rest).toArray listed = [20])
  (h : ∀ K' : Act → World → Prop, Shut (∀ a w, S w → (S w → wpAnyH P md (o0 :: o1 :: o2 :: o3 :: o4 :: o5 :: o6 :: o7 :: o8 :: o9 :: o10 :: o11 :: o12 :: o13 :: o14 :: o15 :: o16 :: o17 :: o18 :: o19 :: o20 :: rest).toArray Q S fuel (listed.setIfInBounds 20 true) a w) → K' a w) → if Region.wanted o20 (yielded (o0 :: o1 :: o2 :: o3 :: o4 :: o5 :: o6 :: o7 :: o8 :: o9 :: o10 :: o11 :: o12 :: o13 :: o14 :: o15 :: o16 :: o17 :: o18 :: o19 :: o20 :: rest).toArray a.tmps) = true then Oper.wp P o20 a w K' Q else K' (a.put o20.dst undef) w) :
  wpAnyH P md (o0 :: o1 :: o2 :: o3 :: o4 :: o5 :: o6 :: o7 :: o8 :: o9 :: o10 :: o11 :: o12 :: o13 :: o14 :: o15 :: o16 :: o17 :: o18 :: o19 :: o20 :: rest).toArray Q S (fuel + 1) listed a w :=
 wpAnyH_ready hr (by simp) (AllReadyH.cons (i := 20) (o := o20) rfl h AllReadyH.nil)
end Go.Proofs.YteepobghdpnabaaGreat
namespace Go.Proofs.YteepobghdpnabaaGreat
open Go.RowKit

def restA (A : Option Addr) (c p s : Nat) : Option Addr := if c = p then A else A.map fun a => ⟨a.block, a.off + p * s, none⟩
section
variable {α : Type} {K : Kd α} {w w' : World} {a a1 a' : Ad} {ms m1 : List (α × Ad)} {B C p : Nat}
end
section
variable {g B : Nat} {w w' : World} {P : WkD} {a : WkA} {l : List OtD} {o ho : Ad} {ms : List (OtD × Ad)} {hs : List (HlD × Ad)} {L : List HlD}
end
end Go.Proofs.YteepobghdpnabaaGreat
