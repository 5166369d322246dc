/-
 The page's step: one held batch more.
-/
import Derived.Test.YteepobghdpnabaaGreatKYWorkerAskeda
namespace Go.Proofs.YteepobghdpnabaaGreat
open Go.RowKit

def restA (A : Option Addr) (c p s : Nat) : Option Addr := if c = p then A else A.map fun a => ⟨a.block, a.off + p * s, none⟩
section
variable {α : Type} {K : Kd α} {w w' : World} {a a1 a' : Ad} {ms m1 : List (α × Ad)} {B C p : Nat}
theorem rd_rest (h : RowOwn K B w a ms) (hp : p ≤ a.n) : Rd w (restA a.A a.c p K.s) (cellsK K (ms.drop p)) := by
  obtain ⟨A, n, c⟩ := a
  intro hne
  have hl : 0 < (cellsK K (ms.drop p)).length := by
    cases hq : cellsK K (ms.drop p) with
    | nil => exact absurd hq hne
    | cons x r => simp
  rw [cellsK_length, List.length_drop, h.len] at hl
  simp only at hl hp
  have hpn : p < n := by
    rcases Nat.eq_zero_or_pos (n - p) with h0 | h0
    · rw [h0, Nat.zero_mul] at hl; omega
    · omega
  have hcap := h.in_.row.cap
  obtain ⟨b, off, rfl, hb, hc⟩ := h.in_.row.rd.open_ (by rw [cellsK_length, h.len]; exact Nat.mul_pos (by simp only; omega) K.pos)
  refine ⟨b, off + p * K.s, ?_, hb, fun i v hi => ?_⟩
  · rw [restA, if_neg (by simp only at hcap ⊢; omega)]
    rfl
  · rw [← cellsK_drop, List.getElem?_drop] at hi
    rw [Nat.add_assoc]
    exact hc _ v hi
theorem RowOwn.join (h1 : RowOwn K C w a1 m1) (h : RowOwn K B w a ms) (hlt : ∀ y ∈ ms, ∀ k, y.2.v.ownBlock = some k → k < C) (hBC : B ≤ C) (hg : w.grownBy w' a1.v.ownBlock) (hr : w'.ownsRow C K.e K.s a'.v a'.n (cellsK K m1 ++ cellsK K (ms.drop p))) (hn : a'.n = a1.n + (ms.length - p)) : RowOwn K B w' a' (m1 ++ ms.drop p) := by
 have hT : Touch (fun k => a1.v.ownBlock = some k) w w' := Touch.grown hg fun k hk => hk
 have hmem : ∀ y ∈ ms.drop p, y ∈ ms := fun y hy => List.mem_of_mem_drop hy
 refine ⟨ownS_more (by rw [cellsK_append]; exact hr) hBC, by rw [List.length_append, List.length_drop, h1.len, hn], fun y hy => ?_, ?_⟩
 ·rcases List.mem_append.1 hy with hy | hy
  ·exact ⟨ownS_more (own_kept (h1.sub y hy).1 fun k hk hl => hT.block k hl fun hf => h1.apart hy hf hk) hBC, (h1.sub y hy).2⟩
  ·exact ⟨own_kept (h.sub y (hmem y hy)).1 fun k hk hl => hT.block k hl fun hf => by have := hlt y (hmem y hy) k hk; have := (own_lt h1.row hf).2; omega, (h.sub y (hmem y hy)).2⟩
 ·rw [List.pairwise_append]
  refine ⟨h1.nod, h.nod.sublist (List.drop_sublist _ _), fun x hx y hy k k1 k2 => ?_⟩
  have := hlt y (hmem y hy) k k2
  have := (own_lt (h1.sub x hx).1 k1).2
  omega
end
section
variable {g B : Nat} {w w' : World} {P : WkD} {a : WkA} {l : List OtD} {o ho : Ad} {ms : List (OtD × Ad)} {hs : List (HlD × Ad)} {L : List HlD}
end
theorem hs_at {a : WkA} {P : WkD} (he : a.hs.map Prod.fst = P.H) {k : Nat} {x : HlD × Ad} (hx : a.hs[k]? = some x) : P.hs[k]? = some x.1.d := by
 rw [WkD.hs, ← he, List.map_map, List.getElem?_map, hx]; rfl
theorem ins_map {α : Type} {cs hs : List (α × Ad)} {x : α} {ob : Ad} {p : Nat} (h : cs.map Prod.fst = (hs.take p).map Prod.fst) : ((cs ++ [(x, ob)]) ++ hs.drop p).map Prod.fst = insAt (hs.map Prod.fst) p x := by
 rw [List.map_append, List.map_append, h, insAt, List.map_take, List.map_drop, List.append_assoc]
 rfl
theorem sltake {α : Type} {K : Kd α} {w : World} {A : Option Addr} {n c p : Nat} {ms : List (α × Ad)} (h : RowIn K w ⟨A, n, c⟩ ms) (hp : p ≤ n) : RowIn K w ⟨A, p, c⟩ (ms.take p) := by
 have hl := h.row.len
 refine ⟨⟨by rw [List.length_take]; simp only at hl ⊢; omega, by have := h.row.cap; simp only at this ⊢; omega, h.row.max, ?_⟩, fun x hx => h.sub x (List.mem_of_mem_take hx)⟩
 rw [← cellsK_take]
 exact rd_takeZ h.row.rd _

def HeldTo2 (g B : Nat) (P' : WkD) (l : List OtD) (o : Ad) (ms : List (OtD × Ad)) (w : World) (e : Ending) (w' : World) : Prop := ∃ a', e = .returned (.tuple #[]) ∧ StAt g B w' P' a' l o ms ∧ Touch (fun k => k = g) w w'
set_option maxRecDepth 100000 in
set_option maxHeartbeats 8000000 in
theorem holds_any (g B : Nat) (P : WkD) (a : WkA) (l : List OtD) (o : Ad) (ms : List (OtD × Ad)) (d ba bn : Int) (ob : Ad) (L : List TxD) (w : World) (h : StAt g B w P a l o ms) (hr : RiseI P.hs) (hS : SlIn w ob L.length (txs L)) (hL : L.length ≤ 1000000) (hn : P.H.length ≤ 1000000) (hl : ∀ x ∈ P.H, x.L.length ≤ 1000000) :
    Calls Tryz.prog 85 #[.pointer (some ⟨g, 0, none⟩), .int .i64 d, .agg #[.int .i64 ba, .int .i64 bn, ob.v]] w (HeldTo2 g B (holdW P d ba bn L) l o ms w) := by
  obtain ⟨q, hq⟩ : ∃ q, q = w.heap.size := ⟨_, rfl⟩
  obtain ⟨w1, hw1⟩ : ∃ w1, w1 = w.alloc (.cells #[.int .i64 ba, .int .i64 bn, .slice ob.A ob.n ob.c] 42) := ⟨_, rfl⟩
  have hb1 : Below w.heap.size w w1 := by rw [hw1]; exact (Below.refl _ _).alloc (Nat.le_refl _) _
  have bx1 : Box w1 q [.int .i64 ba, .int .i64 bn, .slice ob.A ob.n ob.c] := by rw [hw1, hq]; exact box_new w [.int .i64 ba, .int .i64 bn, .slice ob.A ob.n ob.c] 42
  have h1 := h.below hb1
  have hS1 := hS.below hb1
  have HW1 : Hid (w.alloc (.cells #[.int .i64 ba, .int .i64 bn, .slice ob.A ob.n ob.c] 42) = w1) := hw1.symm
  have HQ : Hid (w.heap.size = q) := hq.symm
  have HB1 := Lib.hid hb1
  have H1 := Lib.hid h1
  have HS1 := Lib.hid hS1
  have HBX := Lib.hid bx1
  have HR := Lib.hid hr
  have HF := Lib.hid (sfind_is g B P a l o ms d w1 h1 hn)
  have HL := Lib.hid hl
  have hgl := h1.box.1
  have hql := bx1.1
  have hgq : g < q := by have := h.box.1; omega
  obtain ⟨k0, k1, k2, k3, k4, k5, k6, k7, k8, k9⟩ := h1.cells
  have hz : a.hs.length = a.H.n := h1.pg.core.held.len
  have hlen : P.H.length = a.H.n := by rw [← len_fst h1.pg.core.eH]; exact hz
  have HZ := Lib.hid hz
  have HEH := Lib.hid h1.pg.core.eH
  obtain ⟨AH, nH, cH, hoH⟩ : ∃ A n c, a.H = ⟨A, n, c⟩ := ⟨_, _, _, rfl⟩
  have HOH := Lib.hid hoH
  rw [hoH] at k7 hlen
  simp only at k7 hlen
  have hn2 : nH ≤ 1000000 := by omega
  have HLEN := Lib.hid hlen
  have hB1 : B ≤ w1.heap.size := h1.le
  clear hw1 hq hb1 bx1 h1 hS1 hr hl h hS k0 k1 k2 k3 k4 k5 k6 k8 k9 hn hz hoH hlen
  unfold Ad.v
  by_cases hd : d ∈ P.hs
  · have HI : Hid (0 ≤ idxI P.hs d) := idxI_ge.2 hd
    have HP : Hid (holdW P d ba bn L = P) := by show _ = _; rw [holdW, if_pos (.inl hd)]
    obtain ⟨r, hr⟩ : ∃ r, r = idxI P.hs d := ⟨_, rfl⟩
    rw [← hr] at HI HF
    have j0 : decide (0 ≤ r) = true := decide_eq_true HI.out
    have j1 : 0 ≤ r := HI.out
    clear hd hr
    go_enter Tryz.func85, Tryz.ntmps85
    go_upto_region 1 with fail
    rw [HW1.out, HQ.out]
    go_wp2_with (go_at_call 84; refine HF.out.mono ?_; rintro e w' ⟨rfl, rfl⟩)
    go_end0
    exact ⟨a, rfl, by rw [HP.out]; exact H1.out, Touch.of HB1.out⟩
  · have HI : Hid (idxI P.hs d = -1) := idxI_no hd
    by_cases hfull : 1024 ≤ nH
    · have HP : Hid (holdW P d ba bn L = P) := by show _ = _; rw [holdW, if_pos (.inr (by rw [HLEN.out]; exact hfull))]
      have j0 : (1024 : Int) ≤ (nH : Int) := by omega
      have j1 : decide ((1024 : Int) ≤ (nH : Int)) = true := decide_eq_true j0
      rw [HI.out] at HF
      clear hd
      go_enter Tryz.func85, Tryz.ntmps85
      go_upto_region 1 with fail
      rw [HW1.out, HQ.out]
      go_wp2_with (go_at_call 84; refine HF.out.mono ?_; rintro e w' ⟨rfl, rfl⟩)
      go_end0
      exact ⟨a, rfl, by rw [HP.out]; exact H1.out, Touch.of HB1.out⟩
    · obtain ⟨p, hp⟩ : ∃ p, p = posI P.hs d := ⟨_, rfl⟩
      have hpn : p ≤ nH := by
        have := posI_le P.hs d
        rw [WkD.hs, List.length_map, HLEN.out] at this
        rw [hp]
        exact this
      have HP : Hid (holdW P d ba bn L = { P with H := insAt P.H p ⟨d, ba, bn, L⟩ }) := by show _ = _; rw [holdW, if_neg (by rintro (h | h); exact hd h; rw [HLEN.out] at h; omega), hp]
      have HPO := Lib.hid hp
      have j0 : ¬ ((1024 : Int) ≤ (nH : Int)) := by omega
      have j1 : decide ((1024 : Int) ≤ (nH : Int)) = false := decide_eq_false j0
      rw [HI.out] at HF
      clear hd hp
      go_enter Tryz.func85, Tryz.ntmps85
      go_upto_region 1 with fail
      rw [HW1.out, HQ.out]
      go_wp2_with (go_at_call 84; refine HF.out.mono ?_; rintro e w' ⟨rfl, rfl⟩)
      go_loop [6] (fun i => ∃ k : Nat, i = .int .i64 k ∧ k ≤ p) (fun i => nH - (intOf i).toNat)
      case atStart => exact ⟨0, rfl, Nat.zero_le _⟩
      case round =>
        obtain ⟨k, rfl, hk⟩ := hrel
        have i0 : (0 : Int) ≤ (k : Int) := by omega
        go_upto_region 3 with fail
        go_cut [41] from 21 to 40 (fun bv wx => bv = .bool (decide (k < p)) ∧ w1 = wx)
        case first =>
          by_cases hlt : k < nH
          · have i1 : (k : Int) < (nH : Int) := by omega
            obtain ⟨x, hx⟩ : ∃ x, a.hs[k]? = some x := ⟨a.hs[k]'(by rw [HZ.out, HOH.out]; exact hlt), by simp⟩
            obtain ⟨gr, cr, hA, hcr, hBg, hgrl, hkn, hcell, hfz⟩ := H1.out.pg.core.held.cells hx
            rw [HOH.out] at hA hcr
            simp only at hA hcr
            subst hA
            have c0 : w1.cell? ⟨gr, k * 4, none⟩ = some (.int .i64 x.1.d) := hcell 0 _ rfl
            have hm := hs_at HEH.out hx
            have HD : Hid (decide (x.1.d < d) = decide (k < p)) := by
              rw [decide_eq_decide, HPO.out]
              constructor
              · intro h
                rcases Nat.lt_or_ge k (posI P.hs d) with h1 | h1
                · exact h1
                · have e : k = posI P.hs d := by have := HPO.out; omega
                  rw [e] at hm
                  have := posI_at hm
                  omega
              · exact fun h => posI_below h hm
            clear hm hx hcell hfz hcr
            obtain ⟨bb, hbb⟩ : ∃ bb, bb = decide (k < p) := ⟨_, rfl⟩
            have hdd : decide (x.1.d < d) = bb := HD.out.trans hbb.symm
            have HBB := Lib.hid hbb
            clear hbb
            cases bb with
            | true =>
              have l1 : x.1.d < d := of_decide_eq_true hdd
              clear hdd
              go_wp2_with fail
              go_meet
              exact ⟨by rw [← HBB.out], rfl⟩
            | false =>
              have l1 : ¬ (x.1.d < d) := of_decide_eq_false hdd
              clear hdd
              go_wp2_with fail
              go_meet
              exact ⟨by rw [← HBB.out], rfl⟩
          · have i1 : ¬ ((k : Int) < (nH : Int)) := by omega
            have HBB : Hid (decide (k < p) = false) := decide_eq_false (by omega)
            go_wp2_with fail
            go_meet
            exact ⟨by rw [HBB.out], rfl⟩
        case rest =>
        obtain ⟨rfl, rfl⟩ := hcut
        by_cases hkp : k < p
        · rw [decide_eq_true hkp]
          go_wp2_with fail
          go_round
          case rel => exact ⟨k + 1, by go_num, by omega⟩
          case measure => simp [intOf]; omega
        · obtain rfl : k = p := by omega
          rw [decide_eq_false hkp]
          clear hkp hk
          have iP : (k : Int) ≤ (nH : Int) := by omega
          have hcapH : nH ≤ cH := by have := H1.out.pg.core.held.in_.row.cap; rw [HOH.out] at this; exact this
          have iC : (k : Int) ≤ (cH : Int) := by omega
          go_upto_region 5 with fail
          have hin := H1.out.pg.core.held.in_
          rw [HOH.out] at hin
          have hcut := sltake hin hpn
          have HCUT := Lib.hid hcut
          have hcs : ∀ x ∈ a.hs.take k, KH.len x.1 ≤ 1000000 := fun x hx => HL.out _ (mem_fst HEH.out (List.mem_of_mem_take hx))
          have HCS := Lib.hid hcs
          have hcl : (a.hs.take k).length ≤ 1000000 := by rw [List.length_take, HZ.out, HOH.out]; simp only; omega
          have hSS : Below w1.heap.size w1 w1.drew := (Below.refl _ _).drew
          have k7d : w1.drew.cell? ⟨g, 7, none⟩ = some (.slice AH nH cH) := k7
          clear hin hcut hcs k7
          refine wp_region_held_drew (S := fun w' => Below w1.heap.size w1 w') (by kernel_rfl) hSS (fun _ => ?_)
          refine ytake_0 (v := ?vv1) (by kernel_rfl) (by kernel_rfl) (by kernel_rfl) (fun _ _ _ h => h) (Or.inl ⟨by rfl, ?hy1⟩) hSS ?_
          case hy1 =>
            intro wX hSw
            go_simp
            try with_reducible rfl
          try simp only [Act.put, List.setIfInBounds_toArray, List.set_cons_zero, List.set_cons_succ]
          refine ytake_1 (v := ?vv2) (by kernel_rfl) (by kernel_rfl) (by kernel_rfl) (fun _ _ _ h => h) (Or.inl ⟨by rfl, ?hy2⟩) hSS ?_
          case hy2 =>
            intro wX hSw
            go_simp
            try with_reducible rfl
          try simp only [Act.put, List.setIfInBounds_toArray, List.set_cons_zero, List.set_cons_succ]
          refine ytake_2 (v := ?vv3) (by kernel_rfl) (by kernel_rfl) (by kernel_rfl) (fun _ _ _ h => h) (Or.inl ⟨by rfl, ?hy3⟩) hSS ?_
          case hy3 =>
            intro wX hSw
            go_simp
            try with_reducible rfl
          try simp only [Act.put, List.setIfInBounds_toArray, List.set_cons_zero, List.set_cons_succ]
          refine ytake_3 (v := ?vv4) (by kernel_rfl) (by kernel_rfl) (by kernel_rfl) (fun _ _ _ h => h) (Or.inl ⟨by rfl, ?hy4⟩) hSS ?_
          case hy4 =>
            intro wX hSw
            go_simp
            try with_reducible rfl
          try simp only [Act.put, List.setIfInBounds_toArray, List.set_cons_zero, List.set_cons_succ]
          refine ytake_4 (v := ?vv5) (by kernel_rfl) (by kernel_rfl) (by kernel_rfl) (fun _ _ _ h => h) (Or.inl ⟨by rfl, ?hy5⟩) hSS ?_
          case hy5 =>
            intro wX hSw
            have c7 := (hSw.cell (p := ⟨g, 7, none⟩) hgl).trans k7d
            go_simp
            try with_reducible rfl
          try simp only [Act.put, List.setIfInBounds_toArray, List.set_cons_zero, List.set_cons_succ]
          refine ytake_5 (v := ?vv6) (by kernel_rfl) (by kernel_rfl) (by kernel_rfl) (fun _ _ _ h => h) (Or.inl ⟨by rfl, ?hy6⟩) hSS ?_
          case hy6 =>
            intro wX hSw
            go_simp
            try with_reducible rfl
          try simp only [Act.put, List.setIfInBounds_toArray, List.set_cons_zero, List.set_cons_succ]
          refine ytake_6 (v := ?vv7) (by kernel_rfl) (by kernel_rfl) (by kernel_rfl) (fun _ _ _ h => h) (Or.inl ⟨by rfl, ?hy7⟩) hSS ?_
          case hy7 =>
            intro wX hSw
            go_simp
            try with_reducible rfl
          try simp only [Act.put, List.setIfInBounds_toArray, List.set_cons_zero, List.set_cons_succ]
          refine ytake_8 (v := ?vv8) (by kernel_rfl) (by kernel_rfl) (by kernel_rfl) (fun _ _ _ h => h) (Or.inl ⟨by rfl, ?hy8⟩) hSS ?_
          case hy8 =>
            intro wX hSw
            go_simp
            try with_reducible rfl
          try simp only [Act.put, List.setIfInBounds_toArray, List.set_cons_zero, List.set_cons_succ]
          refine ytake_9 (v := ?vv9) (by kernel_rfl) (by kernel_rfl) (by kernel_rfl) (fun _ _ _ h => h) (Or.inl ⟨by rfl, ?hy9⟩) hSS ?_
          case hy9 =>
            intro wX hSw
            have e0 := (hSw.cell (p := ⟨q, 0, none⟩) hql).trans (HBX.out.2 0 _ rfl).1
            have e1 := (hSw.cell (p := ⟨q, 1, none⟩) hql).trans (HBX.out.2 1 _ rfl).1
            have e2 := (hSw.cell (p := ⟨q, 2, none⟩) hql).trans (HBX.out.2 2 _ rfl).1
            go_simp
            try with_reducible rfl
          try simp only [Act.put, List.setIfInBounds_toArray, List.set_cons_zero, List.set_cons_succ]
          refine yready_7 (by kernel_rfl) ?_
          intro KQ hK
          rw [if_pos (by rfl)]
          try go_simp
          refine (rcopyHelds_any ⟨AH, k, cH⟩ (a.hs.take k) _ (HCUT.out.below hSS) hcl HCS.out).mono ?_
          rintro e w5 ⟨⟨A5, n5, c5⟩, cs, rfl, hr5, hm5, hb5⟩
          dsimp only [Ad.v]
          have hS5 : Below w1.heap.size w1 w5 := hSS.trans (hb5.mono hSS.size)
          have HR5 : Hid (RowOwn KH w1.heap.size w5 ⟨A5, n5, c5⟩ cs) := hr5.more (Nat.le_refl _)
          have HM5 := Lib.hid hm5
          have hl5 : n5 = k := by
            have h1 := hr5.len
            have h2 := congrArg List.length hm5
            rw [List.length_map, List.length_map, List.length_take, HZ.out, HOH.out] at h2
            simp only at h1 h2
            omega
          have HL5 := Lib.hid hl5
          clear hr5 hm5 hb5 hl5
          refine hK.out _ _ hS5 (fun _ => ?_)
          clear hK KQ
          try simp only [Act.put, List.setIfInBounds_toArray, List.set_cons_zero, List.set_cons_succ]
          refine yready_10 (by kernel_rfl) ?_
          intro KQ hK
          rw [if_pos (by rfl)]
          try go_simp
          refine (rcopyBat_any ba bn ob.A ob.c ob.n L _ HS1.out.len ((HS1.out.below hS5).rd) HS1.out.cap (by have := HS1.out.len; omega)).mono ?_
          rintro e w6 ⟨A6, c6, rfl, ho6, -, -, -, hb6⟩
          have hS6 : Below w1.heap.size w1 w6 := hS5.trans (hb6.mono hS5.size)
          have HO6 : Hid (w6.ownsRow w5.heap.size 40 4 (.slice A6 ob.n c6) ob.n (txs L)) := ho6
          have HB6 := Lib.hid hb6
          clear ho6 hb6
          refine hK.out _ _ hS6 (fun _ => ?_)
          clear hK KQ
          try simp only [Act.put, List.setIfInBounds_toArray, List.set_cons_zero, List.set_cons_succ]
          refine ytake_11 (v := ?vv10) (by kernel_rfl) (by kernel_rfl) (by kernel_rfl) (fun _ _ _ h => h) (Or.inl ⟨by rfl, ?hy10⟩) hS6 ?_
          case hy10 =>
            intro wX hSw
            go_simp
            try with_reducible rfl
          try simp only [Act.put, List.setIfInBounds_toArray, List.set_cons_zero, List.set_cons_succ]
          obtain ⟨w7, hw7⟩ : ∃ w7, w7 = w6.alloc (.cells #[.int .i64 d, .int .i64 ba, .int .i64 bn, .slice A6 ob.n c6] 70) := ⟨_, rfl⟩
          have hS7 : Below w1.heap.size w1 w7 := by rw [hw7]; exact hS6.alloc hS6.size _
          have hnew7 : ∀ i u, (KH.cells ⟨d, ba, bn, L⟩ (.slice A6 ob.n c6))[i]? = some u → w7.cell? ⟨w6.heap.size, i, none⟩ = some u := by rw [hw7]; exact cells_new w6 (KH.cells ⟨d, ba, bn, L⟩ (.slice A6 ob.n c6)) 70
          have hrow7 : w7.ownsRow w1.heap.size 70 4 (.slice A5 n5 c5) n5 (cellsK KH cs) := by rw [hw7]; exact ownS_below HR5.out.row (HB6.out.alloc HB6.out.size _)
          have HW7 := Lib.hid hw7
          clear hw7
          refine yready_12 (by kernel_rfl) ?_
          intro KQ hK
          rw [if_pos (by rfl)]
          unfold Oper.wp execOp
          go_simp
          rw [← HW7.out]
          refine hK.out _ _ hS7 (fun _ => ?_)
          clear hK KQ
          try simp only [Act.put, List.setIfInBounds_toArray, List.set_cons_zero, List.set_cons_succ]
          refine yready_13 (by kernel_rfl) ?_
          intro KQ hK
          refine step_app_elemZ _ (by rfl) _ _ _ (by rfl) w1.heap.size 70 zheld 4 48 Tryz.underlying24 info_zheld rfl (by decide) (by decide) _ n5 (cellsK KH cs) (by rfl) hrow7 w6.heap.size (KH.cells ⟨d, ba, bn, L⟩ (.slice A6 ob.n c6)) (by rfl) (by rfl) hnew7 (KH.one _ _ rfl) (by have := HL5.out; omega) hS7.size ?_
          intro g8 c8 w8 ho8 hg8 hl8
          rw [HW7.out] at hg8
          have hpush := HR5.out.push (x := ⟨d, ba, bn, L⟩) (o := ⟨A6, ob.n, c6⟩) (a' := ⟨some ⟨g8, 0, none⟩, n5 + 1, c8⟩) HB6.out HO6.out HS1.out.len hS5.size hg8 ho8 rfl
          have HPU := Lib.hid hpush
          have hS8 : Below w1.heap.size w1 w8 := hS6.trans (((((Touch.refl (fun k => (Value.slice A5 n5 c5).ownBlock = some k) w6).alloc _).on (Touch.grown hg8 fun k hk => hk)).below (B := w1.heap.size) (fun j hj => (own_lt HR5.out.row hj).2) hS6.size))
          refine hK.out _ _ hS8 (fun _ => ?_)
          clear hK KQ ho8 hg8 hl8 hpush
          try simp only [Act.put, List.setIfInBounds_toArray, List.set_cons_zero, List.set_cons_succ]
          refine ytake_14 (v := ?vv11) (by kernel_rfl) (by kernel_rfl) (by kernel_rfl) (fun _ _ _ h => h) (Or.inl ⟨by rfl, ?hy11⟩) hS8 ?_
          case hy11 =>
            intro wX hSw
            go_simp
            try with_reducible rfl
          try simp only [Act.put, List.setIfInBounds_toArray, List.set_cons_zero, List.set_cons_succ]
          refine wpAnyH_done (by kernel_rfl) ?_ _
          have HS8 := Lib.hid hS8
          have H8 := Lib.hid (H1.out.below hS8)
          clear hnew7 hrow7 hS7 hS6 hS5 hSS k7d
          have k78 : w8.cell? ⟨g, 7, none⟩ = some (.slice AH nH cH) := by have := H8.out.cells.2.2.2.2.2.2.2.1; rw [HOH.out] at this; exact this
          have hrd := rd_rest (p := k) H8.out.pg.core.held (by rw [HOH.out]; exact hpn)
          rw [HOH.out] at hrd
          have hrun := fun (ty : TypeId) (cc : Nat) => run_app_rowsZ (P := Tryz.prog) w8 24 ty w1.heap.size 70 zheld 4 48 Tryz.underlying24 info_zheld rfl (by decide) (by decide) (.slice (some ⟨g8, 0, none⟩) (n5 + 1) c8) (n5 + 1) (cellsK KH (cs ++ [((⟨d, ba, bn, L⟩ : HlD), (⟨A6, ob.n, c6⟩ : Ad))])) HPU.out.row (restA AH cH k 4) (nH - k) cc (cellsK KH (a.hs.drop k)) (by rw [cellsK_length, List.length_drop, HZ.out, HOH.out]; rfl) hrd (cellsK_oneCell KH _) (by have := HL5.out; omega) HS8.out.size
          obtain ⟨A9, c9, w9, hr9, ho9, hg9, hl9⟩ := hrun 24 (cH - k)
          have HRUN := Lib.hid hr9
          have hlt9 : ∀ y ∈ a.hs, ∀ j, y.2.v.ownBlock = some j → j < w1.heap.size := fun y hy j hj => (own_lt (H1.out.pg.core.held.sub y hy).1 hj).1
          have hjoin := HPU.out.join (p := k) (a' := ⟨A9, n5 + 1 + (nH - k), c9⟩) H8.out.pg.core.held hlt9 hB1 hg9 ho9 (by rw [HZ.out, HOH.out])
          have hb9 : Below w1.heap.size w1 w9 := HS8.out.trans ((Touch.grown (F := fun k => (Value.slice (some ⟨g8, 0, none⟩) (n5 + 1) c8).ownBlock = some k) hg9 fun k hk => hk).below (fun j hj => (own_lt HPU.out.row hj).2) HS8.out.size)
          have hmem9 : ∀ y ∈ cs ++ [(⟨d, ba, bn, L⟩, ⟨A6, ob.n, c6⟩)] ++ a.hs.drop k, ∀ j, y.2.v.ownBlock = some j → j ≠ g ∧ ∀ z ∈ ms, z.2.v.ownBlock ≠ some j := by
            intro y hy j hj
            rcases List.mem_append.1 hy with hy | hy
            · have h1 := (own_lt (HPU.out.sub y hy).1 hj).2
              exact ⟨by omega, fun z hz h2 => by have := (own_lt (H1.out.out.sub z hz).1 h2).1; omega⟩
            · exact ⟨H1.out.far0 j (.inl (.inr (.inr (.inr (.inr ⟨y, List.mem_of_mem_drop hy, hj⟩))))), fun z hz h2 => H1.out.ap z hz y (List.mem_of_mem_drop hy) j h2 hj⟩
          have hrow9 : ∀ j, (Ad.v ⟨A9, n5 + 1 + (nH - k), c9⟩).ownBlock = some j → j ≠ g := fun j hj => by have := (own_lt ho9 hj).2; omega
          have hput := H1.out.putH (ho := ⟨A9, n5 + 1 + (nH - k), c9⟩) hb9 hjoin (ins_map HM5.out) hrow9 hmem9
          rw [HEH.out, ← HP.out] at hput
          have HPUT := Lib.hid hput
          have k79 : w9.cell? ⟨g, 7, none⟩ = some (.slice AH nH cH) := by have := (H1.out.below hb9).cells.2.2.2.2.2.2.2.1; rw [HOH.out] at this; exact this
          have f79 : w9.frozen? ⟨g, 7, none⟩ = false := ((H1.out.below hb9).box.2 7 _ rfl).2
          clear hrd hrun hr9 ho9 hg9 hl9 hlt9 hjoin hb9 hmem9 hrow9 hput
          by_cases hcp : cH = k
          · have e1 : restA AH cH k 4 = AH := by rw [restA, if_pos hcp]
            rw [e1] at HRUN
            subst hcp
            obtain rfl : nH = cH := by omega
            rw [Nat.sub_self] at HRUN HPUT
            cases AH with
            | none =>
              go_wp2_with (at_builtin; go_loud (refine wpList_app_run (v := .slice (some ⟨g8, 0, none⟩) (n5 + 1) c8) (u := .slice none 0 0) _ rfl _ _ 24 24 rfl rfl rfl HRUN.out ?_))
              go_end0
              exact ⟨_, rfl, HPUT.out.1, (Touch.of HB1.out).on HPUT.out.2⟩
            | some ad =>
              go_wp2_with (at_builtin; go_loud (refine wpList_app_run (v := .slice (some ⟨g8, 0, none⟩) (n5 + 1) c8) (u := .slice (some ad) 0 0) _ rfl _ _ 24 24 rfl rfl rfl HRUN.out ?_))
              go_end0
              exact ⟨_, rfl, HPUT.out.1, (Touch.of HB1.out).on HPUT.out.2⟩
          · have hex : ∃ b off, AH = some ⟨b, off, none⟩ := by
              have hpos : 0 < cH := by omega
              have hrow := H1.out.pg.core.held.row
              rw [HOH.out] at hrow
              rcases hrow.2 with ⟨hv, _⟩ | ⟨g', cap', cur', hv, _⟩
              · cases hv; exact absurd hpos (Nat.lt_irrefl _)
              · cases hv; exact ⟨g', 0, rfl⟩
            obtain ⟨bA, offA, rfl⟩ := hex
            have e1 : restA (some ⟨bA, offA, none⟩) cH k 4 = some ⟨bA, offA + k * 4, none⟩ := by rw [restA, if_neg hcp]; rfl
            rw [e1] at HRUN
            go_wp2_with (at_builtin; go_loud (refine wpList_app_run (v := .slice (some ⟨g8, 0, none⟩) (n5 + 1) c8) (u := .slice (some ⟨bA, offA + k * 4, none⟩) (nH - k) (cH - k)) _ rfl _ _ 24 24 rfl rfl rfl HRUN.out ?_))
            go_end0
            exact ⟨_, rfl, HPUT.out.1, (Touch.of HB1.out).on HPUT.out.2⟩

end Go.Proofs.YteepobghdpnabaaGreat
