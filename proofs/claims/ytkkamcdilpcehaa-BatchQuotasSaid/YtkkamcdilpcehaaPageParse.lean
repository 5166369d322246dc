/-
  The page's reading of a batch.
-/
import Derived.Test.YtkkamcdilpcehaaPageBytes
import Derived.Test.YtkkamcdilpcehaaMemBigStep
import Derived.Deep.DeepCutAuto
import Derived.Deep.CutRange
import Derived.Deep.RegionLaw
namespace Go.Proofs.Ytkkamcdilpcehaa
open Go.RowKit

theorem take_four {R : List ByteArray} {j : Nat} (h : 4 * j + 4 ≤ R.length) : ∃ s q k v, R[4 * j]? = some s ∧ R[4 * j + 1]? = some q ∧ R[4 * j + 2]? = some k ∧ R[4 * j + 3]? = some v ∧
    rdT (R.take (4 * (j + 1))) = ((rdT (R.take (4 * j))).1 ++ [⟨((wholeN s).getD 0 : Nat), ((wholeN q).getD 0 : Nat), k, v⟩], (rdT (R.take (4 * j))).2 && ((wholeN s).isSome && (wholeN q).isSome)) := by
  have g : ∀ i, i < R.length → R[i]? = some (R[i]?.getD ByteArray.empty) := fun i hi => by simp [hi]
  refine ⟨_, _, _, _, g _ (by omega), g _ (by omega), g _ (by omega), g _ (by omega), ?_⟩
  rw [← rdT_snoc _ _ _ _ j (R.take (4 * j)) (by rw [List.length_take]; omega)]
  congr 1
  rw [show 4 * (j + 1) = 4 * j + 1 + 1 + 1 + 1 by omega, take_next (g _ (by omega)), take_next (g _ (by omega)), take_next (g _ (by omega)), take_next (g _ (by omega))]
  simp
theorem text_in {zs : List Int} {l : List (List Int)} (hy : Byts zs) (h : getPuts zs = some l) : ∀ s ∈ l, s.length ≤ zs.length := fun s hs => by
  rw [getPuts_get hy h, putPuts, List.length_append]
  have : ∀ (l : List (List Int)), s ∈ l → s.length ≤ (vputs l).length := by
    intro l
    induction l with
    | nil => intro h; simp at h
    | cons x l ih =>
      intro h
      have e : vputs (x :: l) = vnum x.length ++ x ++ vputs l := by simp [vputs]
      rw [e, List.length_append, List.length_append]
      rcases List.mem_cons.1 h with rfl | h
      · omega
      · have := ih h; omega
  have := this l hs
  omega

theorem batchW_toList : batchW.toList = [98, 97, 116, 99, 104] := by rw [ByteArray.toList_eq]; rfl
theorem textsB_short {T : List ByteArray} (h : T.length < 7) : textsB T = none := by
  match T, h with
  | w :: x :: y :: r, h =>
    rw [textsB_three, if_neg]
    rintro ⟨_, h4, _⟩
    simp at h
    omega
  | [], _ => rfl
  | [_], _ => rfl
  | [_, _], _ => rfl
theorem textsB_odd {T : List ByteArray} (h7 : 7 ≤ T.length) (h : T.length % 4 ≠ 3) : textsB T = none := by
  match T, h7, h with
  | w :: x :: y :: r, h7, h =>
    rw [textsB_three, if_neg]
    rintro ⟨_, h4, h5, _⟩
    simp at h h7
    omega

theorem text_count {zs : List Int} {l : List (List Int)} (hy : Byts zs) (h : getPuts zs = some l) : l.length ≤ zs.length := by
  rw [getPuts_get hy h, putPuts, List.length_append]
  have : ∀ (l : List (List Int)), l.length ≤ (vputs l).length := by
    intro l
    induction l with
    | nil => simp
    | cons x l ih =>
      have e : vputs (x :: l) = vnum x.length ++ x ++ vputs l := by simp [vputs]
      have := vnum_pos x.length
      rw [e, List.length_append, List.length_append, List.length_cons]
      omega
  have := this l
  omega
theorem far_g {W w0 w' : World} {g o : Nat} {v : Value} (hb : Below (g + 1) w0 w') (h0 : Below W.heap.size W w0) (hg : g < W.heap.size) (h : W.cell? ⟨g, o, none⟩ = some v) : w'.cell? ⟨g, o, none⟩ = some v :=
  (hb.cell (p := ⟨g, o, none⟩) (Nat.lt_succ_self g)).trans ((h0.cell (p := ⟨g, o, none⟩) hg).trans h)
theorem far_f {W w0 w' : World} {g o : Nat} {v : Bool} (hb : Below (g + 1) w0 w') (h0 : Below W.heap.size W w0) (hg : g < W.heap.size) (h : W.frozen? ⟨g, o, none⟩ = v) : w'.frozen? ⟨g, o, none⟩ = v :=
  (hb.frozen (p := ⟨g, o, none⟩) (Nat.lt_succ_self g)).trans ((h0.frozen (p := ⟨g, o, none⟩) hg).trans h)

theorem far_b {W w0 w' w2 : World} {g B : Nat} (hb : Below (g + 1) w0 w') (h0 : Below W.heap.size W w0) (h2 : Below B w2 W) (hB : B ≤ W.heap.size) (hg : B ≤ g + 1) : Below B w2 w' :=
  (h2.trans (h0.mono hB)).trans (hb.mono hg)

/-- a batch that is told, or none -/
def RParsed (w : World) (r : Option (Int × Int × List TxD)) (e : Ending) (w' : World) : Prop :=
  Below w.heap.size w w' ∧ match r with
  | some (a, N, L) => ∃ A c, e = .returned (.tuple #[.agg #[.int .i64 a, .int .i64 N, .slice A L.length c], .bool true]) ∧ w'.ownsRow w.heap.size 34 4 (.slice A L.length c) L.length (txs L)
  | none => e = .returned (.tuple #[.agg #[.int .i64 0, .int .i64 0, .slice none 0 0], .bool false])
theorem rparsed_none {w w' : World} {r : Option (Int × Int × List TxD)} {e : Ending} (h : r = none) (hb : Below w.heap.size w w') (he : e = .returned (.tuple #[.agg #[.int .i64 0, .int .i64 0, .slice none 0 0], .bool false])) : RParsed w r e w' := by
  subst h; exact ⟨hb, he⟩

theorem rd_up {ok0 ok e1 e2 okn : Bool} {M : List TxD} {y1 y2 : Int} {s q kk vv : ByteArray} {R : List ByteArray} {j : Nat} (hO : ok = (ok0 && (rdT (R.take (4 * j))).2)) (hM : ok = true → M = (rdT (R.take (4 * j))).1)
    (hs : (wholeN s).isSome = e1) (hv : ∀ m, wholeN s = some m → y1 = (m : Int)) (hs' : (wholeN q).isSome = e2) (hv' : ∀ m, wholeN q = some m → y2 = (m : Int)) (hk : (ok && (e1 && e2)) = okn)
    (hrd : rdT (R.take (4 * (j + 1))) = ((rdT (R.take (4 * j))).1 ++ [⟨((wholeN s).getD 0 : Nat), ((wholeN q).getD 0 : Nat), kk, vv⟩], (rdT (R.take (4 * j))).2 && ((wholeN s).isSome && (wholeN q).isSome))) :
    (okn = (ok0 && (rdT (R.take (4 * (j + 1)))).2)) ∧ (okn = true → M ++ [⟨y1, y2, kk, vv⟩] = (rdT (R.take (4 * (j + 1)))).1) := by
  rw [hrd]
  refine ⟨?_, fun h => ?_⟩
  · rw [← hk, hO, hs, hs', Bool.and_assoc]
  · rw [← hk, Bool.and_eq_true, Bool.and_eq_true] at h
    obtain ⟨h1, h2, h3⟩ := h
    rw [h2, Option.isSome_iff_exists] at hs
    rw [h3, Option.isSome_iff_exists] at hs'
    obtain ⟨m, hm⟩ := hs
    obtain ⟨m', hm'⟩ := hs'
    rw [hM h1, hv m hm, hv' m' hm', hm, hm']
    rfl
theorem parse_not {t0 t1 t2 : ByteArray} {R : List ByteArray} {b1 b2 : Bool} (h1 : (wholeN t1).isSome = b1) (h2 : (wholeN t2).isSome = b2) (h : ((b1 && b2) && (rdT R).2) = false) : textsB (t0 :: t1 :: t2 :: R) = none := by
  rw [textsB_three, if_neg]
  rintro ⟨_, _, _, g1, g2, g3, _⟩
  rw [h1] at g1
  rw [h2] at g2
  rw [g1, g2, g3] at h
  cases h
theorem parse_bad {t0 t1 t2 : ByteArray} {R : List ByteArray} {x1 x2 : Int} (h1 : ∀ m, wholeN t1 = some m → x1 = (m : Int)) (h2 : ∀ m, wholeN t2 = some m → x2 = (m : Int)) (h : batB x1 x2 (rdT R).1 = false) : textsB (t0 :: t1 :: t2 :: R) = none := by
  rw [textsB_three, if_neg]
  rintro ⟨_, _, _, g1, g2, _, g4⟩
  rw [Option.isSome_iff_exists] at g1 g2
  obtain ⟨m, hm⟩ := g1
  obtain ⟨m', hm'⟩ := g2
  rw [hm, hm', Option.getD_some, Option.getD_some, ← h1 m hm, ← h2 m' hm', h] at g4
  cases g4
theorem parse_good {t0 t1 t2 : ByteArray} {R : List ByteArray} {x1 x2 : Int} {b1 b2 : Bool} (hw : t0 = batchW) (hl : 4 ≤ R.length) (hl' : R.length % 4 = 0) (h1 : (wholeN t1).isSome = b1) (h2 : (wholeN t2).isSome = b2) (hv1 : ∀ m, wholeN t1 = some m → x1 = (m : Int)) (hv2 : ∀ m, wholeN t2 = some m → x2 = (m : Int))
    (h : ((b1 && b2) && (rdT R).2) = true) (hb : batB x1 x2 (rdT R).1 = true) : textsB (t0 :: t1 :: t2 :: R) = some (x1, x2, (rdT R).1) := by
  rw [Bool.and_eq_true, Bool.and_eq_true] at h
  obtain ⟨⟨g1, g2⟩, g3⟩ := h
  rw [g1, Option.isSome_iff_exists] at h1
  rw [g2, Option.isSome_iff_exists] at h2
  obtain ⟨m, hm⟩ := h1
  obtain ⟨m', hm'⟩ := h2
  have e1 := hv1 m hm
  have e2 := hv2 m' hm'
  rw [textsB_three, hm, hm', Option.getD_some, Option.getD_some, ← e1, ← e2, if_pos ⟨hw, hl, hl', rfl, rfl, g3, hb⟩]
theorem rparsed_some {w w' : World} {r : Option (Int × Int × List TxD)} {e : Ending} {a N : Int} {L : List TxD} {A : Option Addr} {c n : Nat} (h : r = some (a, N, L)) (hn : L.length = n) (hb : Below w.heap.size w w') (he : e = .returned (.tuple #[.agg #[.int .i64 a, .int .i64 N, .slice A n c], .bool true]))
    (ho : w'.ownsRow w.heap.size 34 4 (.slice A n c) n (txs L)) : RParsed w r e w' := by
  subst h hn; exact ⟨hb, A, c, he, ho⟩

set_option maxRecDepth 100000 in
set_option maxHeartbeats 100000000 in
theorem rparse_any (A : Option Addr) (c n : Nat) (zs : List Int) (w : World) (hz : zs.length = n) (hr : Rd w A (u8s zs)) (hy : Byts zs) (hc : n ≤ c) (hcm : c ≤ maxLen) (hn : n ≤ 1048576) :
    Calls Try.prog 23 #[.slice A n c] w (RParsed w (parseB zs)) := by
  have HZ := Lib.hid hz
  clear hz
  obtain ⟨w1, hw1⟩ : ∃ w1, w1 = w.alloc (.cells #[.int .i64 0, .int .i64 0, .slice none 0 0] 26) := ⟨_, rfl⟩
  have hb1 : Below w.heap.size w w1 := by rw [hw1]; exact (Below.refl _ _).alloc (Nat.le_refl _) _
  have hs1 : w.heap.size < w1.heap.size := by rw [hw1]; simp
  have hr1 : Rd w1 A (u8s zs) := hr.below hb1
  have hcz : (∀ wX, Below w1.heap.size w1 wX → (wX.cell? ⟨w.heap.size, 0, none⟩ = some (.int .i64 0) ∧ wX.cell? ⟨w.heap.size, 1, none⟩ = some (.int .i64 0) ∧ wX.cell? ⟨w.heap.size, 2, none⟩ = some (.slice none 0 0)) ∧
      wX.frozen? ⟨w.heap.size, 0, none⟩ = false ∧ wX.frozen? ⟨w.heap.size, 1, none⟩ = false ∧ wX.frozen? ⟨w.heap.size, 2, none⟩ = false) := fun wX h => by
    refine ⟨⟨(h.cell (p := ⟨w.heap.size, 0, none⟩) hs1).trans ?_, (h.cell (p := ⟨w.heap.size, 1, none⟩) hs1).trans ?_, (h.cell (p := ⟨w.heap.size, 2, none⟩) hs1).trans ?_⟩, (h.frozen (p := ⟨w.heap.size, 0, none⟩) hs1).trans ?_, (h.frozen (p := ⟨w.heap.size, 1, none⟩) hs1).trans ?_, (h.frozen (p := ⟨w.heap.size, 2, none⟩) hs1).trans ?_⟩
    all_goals rw [hw1]
    all_goals first | (rw [World.cell?_alloc_at _ _ _ _ rfl]; rfl) | (rw [World.frozen?, heap_alloc_new]; simp)
  have HCZ := Lib.hid hcz
  have HW1 := Lib.hid hw1
  clear hcz hw1
  cases hg : getPuts zs with
  | none =>
    have HN : Hid (parseB zs = none) := by show parseB zs = none; unfold parseB; rw [hg]; rfl
    have HG := Lib.hid hg
    clear hg
    go_enter Try.func23, Try.ntmps23
    go_wp2_with fail
    rw [← HW1.out]
    refine (rgetPuts_any A c n zs _ HZ.out hr1 hy hc hcm hn).mono ?_
    rintro e w2 hgot
    rw [HG.out] at hgot
    obtain ⟨v2, rfl, hb2⟩ := hgot
    obtain ⟨⟨k0, k1, k2⟩, f0, f1, f2⟩ := HCZ.out _ hb2
    have hb3 := hb1.trans (hb2.mono hb1.size)
    go_wp2_with fail
    refine bodyPost_ret (v := .tuple #[.agg #[.int .i64 0, .int .i64 0, .slice none 0 0], .bool false]) (by simp [results, Try.results23, go_sem, k0, k1, k2]) rfl (rparsed_none HN.out ?_ rfl)
    exact ((hb3.setCell (by simp) _).setCell (by simp) _).setCell (by simp) _
  | some l =>
    obtain ⟨T, hT⟩ : ∃ T, l.map strOfNums = T := ⟨_, rfl⟩
    obtain ⟨nT, hnT⟩ : ∃ nT, T.length = nT := ⟨_, rfl⟩
    have hpar : parseB zs = textsB T := by unfold parseB; rw [hg, Option.bind_some, hT]
    have hsml : ∀ s ∈ T, s.size ≤ 1048576 := by
      intro s hs
      rw [← hT] at hs
      obtain ⟨x, hx, rfl⟩ := List.mem_map.1 hs
      have h1 := text_in hy hg x hx
      have h2 := congrArg List.length (byt_of (getPuts_byts hy hg x hx))
      rw [byt_length] at h2
      rw [h2]
      have := HZ.out
      omega
    have HTO : Hid (textsOf (getPuts zs) = some (strs T)) := by show textsOf (getPuts zs) = some (strs T); rw [hg]; simp only [textsOf, Option.map_some, hT]
    have HPAR := Lib.hid hpar
    have HSML := Lib.hid hsml
    have HCNT : Hid (nT ≤ n) := by
      show nT ≤ n
      have h1 := text_count hy hg
      have h2 := HZ.out
      rw [← hnT, ← hT, List.length_map]
      omega
    have HNT := Lib.hid hnT
    clear hg hT hnT hpar hsml
    go_enter Try.func23, Try.ntmps23
    go_wp2_with fail
    rw [← HW1.out]
    refine (rgetPuts_any A c n zs _ HZ.out hr1 hy hc hcm hn).mono ?_
    rintro e w2 hgot
    rw [HTO.out] at hgot
    obtain ⟨v2, rfl, ho2, hb2⟩ := hgot
    have ho2b := own_cast ho2 ((strs_length T).trans HNT.out)
    obtain ⟨A2, c2, rfl, hc2, hm2, hr2, _, hl2⟩ := own_val ho2b
    unfold maxLen at hm2
    clear hl2 ho2 ho2b
    have hb3 := hb1.trans (hb2.mono hb1.size)
    by_cases h7 : nT < 7
    · have HN := Lib.hid (HPAR.out.trans (textsB_short (by rw [HNT.out]; exact h7)))
      have i7 : (nT : Int) < 7 := by omega
      obtain ⟨⟨k0, k1, k2⟩, f0, f1, f2⟩ := HCZ.out _ hb2
      go_wp2_with fail
      refine bodyPost_ret (v := .tuple #[.agg #[.int .i64 0, .int .i64 0, .slice none 0 0], .bool false]) (by simp [results, Try.results23, go_sem, k0, k1, k2]) rfl (rparsed_none HN.out ?_ rfl)
      exact ((hb3.setCell (by simp) _).setCell (by simp) _).setCell (by simp) _
    · have i7 : ¬ ((nT : Int) < 7) := by omega
      by_cases h4 : nT % 4 = 3
      · obtain ⟨t0, t1, t2, R, rfl, hRl⟩ : ∃ t0 t1 t2 R, T = t0 :: t1 :: t2 :: R ∧ R.length + 3 = nT := by
          have := HNT.out
          match T, this with
          | t0 :: t1 :: t2 :: R, h => exact ⟨t0, t1, t2, R, rfl, by simpa using h⟩
          | [], h => simp at h; omega
          | [_], h => simp at h; omega
          | [_, _], h => simp at h; omega
        have i4 : ((nT : Int) % 4 != 3) = false := by simp; omega
        obtain ⟨b, off, rfl, hbl, hcell⟩ := hr2.open_ (by simp [strs])
        have HC : Hid (∀ wX, Below w2.heap.size w2 wX → ∀ i s, (t0 :: t1 :: t2 :: R)[i]? = some s → wX.cell? ⟨b, off + i, none⟩ = some (.string s)) := fun wX hX i s hs =>
          (hX.cell (p := ⟨b, off + i, none⟩) hbl).trans (hcell i _ (by simp only [strs, List.getElem?_map, hs, Option.map_some]))
        have q0 : w2.cell? ⟨b, off, none⟩ = some (.string t0) := HC.out _ (Below.refl _ _) 0 _ rfl
        have hn0 : 0 < nT := by omega
        have hn0' : (0 : Int) < (nT : Int) := by omega
        have i7d : decide ((nT : Int) < 7) = false := by simp; omega
        by_cases hw : t0 = batchW
        · have ht0 : (t0.toList == [98, 97, 116, 99, 104]) = true := by rw [hw, batchW_toList]; rfl
          have hn1 : 1 < nT := by omega
          have hn1' : (1 : Int) < (nT : Int) := by omega
          have hn2 : 2 < nT := by omega
          have hn2' : (2 : Int) < (nT : Int) := by omega
          have q1 : w2.cell? ⟨b, off + 1, none⟩ = some (.string t1) := HC.out _ (Below.refl _ _) 1 _ rfl
          have HWW := Lib.hid hw
          have HRL := Lib.hid hRl
          have HZ3 := Lib.hid (HSML.out t1 (by simp))
          have HZ4 := Lib.hid (HSML.out t2 (by simp))
          obtain ⟨j0, hj0⟩ : ∃ J, nT = 3 + 4 * J := ⟨(nT - 3) / 4, by omega⟩
          have HJ := Lib.hid hj0
          clear hcell h4 hr2 hw hRl hj0
          go_wp2_with fail
          refine (rwhole_any t1 _ HZ3.out).mono ?_
          rintro e w3 ⟨x1, b1, rfl, hb4, hs1, hv1⟩
          have HS1 := Lib.hid hs1
          have HV1 := Lib.hid hv1
          have q2 : w3.cell? ⟨b, off + 2, none⟩ = some (.string t2) := HC.out _ hb4 2 _ rfl
          clear q0 q1 hs1 hv1
          go_wp2_with fail
          refine (rwhole_any t2 _ HZ4.out).mono ?_
          rintro e w4 ⟨x2, b2, rfl, hb5, hs2, hv2⟩
          have HS2 := Lib.hid hs2
          have HV2 := Lib.hid hv2
          have hb6 := hb4.trans (hb5.mono hb4.size)
          clear q2 hs2 hv2 hb5 hb4
          go_upto_region 7 with fail
          obtain ⟨w5, hw5⟩ : ∃ w5, w5 = w4.alloc (.cells #[.int .i64 x1, .int .i64 x2, .slice none 0 0] 26) := ⟨_, rfl⟩
          obtain ⟨g, hgg⟩ : ∃ g, g = w4.heap.size := ⟨_, rfl⟩
          have hb7 : Below w2.heap.size w2 w5 := by rw [hw5]; exact hb6.alloc hb6.size _
          have hg5 : g < w5.heap.size ∧ w2.heap.size ≤ g := by rw [hw5, hgg]; exact ⟨by simp, hb6.size⟩
          have hcells : (w5.cell? ⟨g, 0, none⟩ = some (.int .i64 x1) ∧ w5.cell? ⟨g, 1, none⟩ = some (.int .i64 x2) ∧ w5.cell? ⟨g, 2, none⟩ = some (.slice none 0 0)) ∧ w5.frozen? ⟨g, 2, none⟩ = false := by
            rw [hw5, hgg]
            refine ⟨⟨?_, ?_, ?_⟩, ?_⟩
            all_goals first | (rw [World.cell?_alloc_at _ _ _ _ rfl]; rfl) | (rw [World.frozen?, heap_alloc_new]; simp)
          rw [← hw5, ← hgg]
          clear hw5 hgg hb6
          obtain ⟨ok0, hok0⟩ : ∃ ok0, (b1 && b2) = ok0 := ⟨_, rfl⟩
          have HOK0 := Lib.hid hok0
          clear hok0
          go_cut [5] (fun s5 wx => s5 = .bool ok0 ∧ wx = w5)
          case first =>
            cases b1 <;> cases b2
            all_goals
              go_wp2_with fail
              go_meet
              exact ⟨by rw [← HOK0.out]; rfl, rfl⟩
          case rest =>
            obtain ⟨rfl, rfl⟩ := hcut
            have HCE := Lib.hid hcells
            clear hcells
            go_wp2_with fail
            go_loopw [5, 11] (fun o i wz => ∃ (j k : Nat) (ok : Bool) (M : List TxD) (v : Value), i = .int .i64 k ∧ Hid (k = 3 + 4 * j) ∧ j ≤ j0 ∧ o = .bool ok ∧ wz.cell? ⟨g, 0, none⟩ = some (.int .i64 x1) ∧ wz.cell? ⟨g, 1, none⟩ = some (.int .i64 x2) ∧ wz.cell? ⟨g, 2, none⟩ = some v ∧ wz.frozen? ⟨g, 2, none⟩ = false ∧
              wz.ownsRow (g + 1) 34 4 v j (txs M) ∧ Hid (ok = (ok0 && (rdT (R.take (4 * j))).2)) ∧ Hid (ok = true → M = (rdT (R.take (4 * j))).1) ∧ Below w2.heap.size w2 wz) (fun _ i _ => nT - (intOf i).toNat)
            case atStart => exact ⟨0, 3, ok0, [], _, rfl, rfl, by omega, rfl, HCE.out.1.1, HCE.out.1.2.1, HCE.out.1.2.2, HCE.out.2, World.ownsRow_nil _ _ _ _, by show ok0 = (ok0 && (rdT (R.take (4 * 0))).2); simp [rdT], fun _ => rfl, hb7⟩
            case round =>
              obtain ⟨j, k, ok, M, v, rfl, HK, hj, rfl, d0, d1, d2, df, hown, HO, HM, hbz⟩ := hrel
              by_cases hlt : j < j0
              · obtain ⟨s, q, kk, vv, r0, r1, r2, r3, hrd⟩ := take_four (R := R) (j := j) (by have := HRL.out; have := HJ.out; omega)
                have hk3 := HK.out
                have hkn : k + 3 < nT := by have := HJ.out; omega
                have T0 : (t0 :: t1 :: t2 :: R)[k]? = some s := by rw [hk3, show 3 + 4 * j = 4 * j + 1 + 1 + 1 by omega]; exact r0
                have T1 : (t0 :: t1 :: t2 :: R)[k + 1]? = some q := by rw [hk3, show 3 + 4 * j + 1 = 4 * j + 1 + 1 + 1 + 1 by omega]; exact r1
                have T2 : (t0 :: t1 :: t2 :: R)[k + 2]? = some kk := by rw [hk3, show 3 + 4 * j + 2 = 4 * j + 2 + 1 + 1 + 1 by omega]; exact r2
                have T3 : (t0 :: t1 :: t2 :: R)[k + 3]? = some vv := by rw [hk3, show 3 + 4 * j + 3 = 4 * j + 3 + 1 + 1 + 1 by omega]; exact r3
                have HCC : Hid (∀ wX, Below w2.heap.size w2 wX → wX.cell? ⟨b, off + k, none⟩ = some (.string s) ∧ wX.cell? ⟨b, off + (k + 1), none⟩ = some (.string q) ∧ wX.cell? ⟨b, off + (k + 2), none⟩ = some (.string kk) ∧ wX.cell? ⟨b, off + (k + 3), none⟩ = some (.string vv)) :=
                  fun wX hX => ⟨HC.out wX hX k s T0, HC.out wX hX (k + 1) q T1, HC.out wX hX (k + 2) kk T2, HC.out wX hX (k + 3) vv T3⟩
                have Z1 := Lib.hid (HSML.out s (List.mem_of_getElem? T0))
                have Z2 := Lib.hid (HSML.out q (List.mem_of_getElem? T1))
                have HRD := Lib.hid hrd
                have i0 : (0 : Int) ≤ (k : Int) := by omega
                have ik0 : (k : Int) < (nT : Int) := by omega
                have ik1 : (k : Int) + 1 < (nT : Int) := by omega
                have ik2 : (k : Int) + 2 < (nT : Int) := by omega
                have ik3 : (k : Int) + 3 < (nT : Int) := by omega
                have in0 : k < nT := by omega
                have in1 : k + 1 < nT := by omega
                have in2 : k + 2 < nT := by omega
                have in3 : k + 3 < nT := by omega
                have hgl : g < wr.heap.size := World.block_lt_of_cell? wr _ d0
                have hj20 : j ≤ 1048576 := by have := HCNT.out; have := HJ.out; omega
                clear r0 r1 r2 r3 T0 T1 T2 T3 hrd hk3 hkn
                obtain ⟨cc0, _, _, _⟩ := HCC.out _ hbz
                go_wp2_with fail
                refine (rwhole_any s _ Z1.out).mono ?_
                rintro e w6 ⟨y1, e1, rfl, hb8, hs3, hv3⟩
                have hbz6 := hbz.trans (hb8.mono hbz.size)
                have HS3 := Lib.hid hs3
                have HV3 := Lib.hid hv3
                obtain ⟨_, cc1, _, _⟩ := HCC.out _ hbz6
                clear cc0 hs3 hv3
                go_wp2_with fail
                refine (rwhole_any q _ Z2.out).mono ?_
                rintro e w7 ⟨y2, e2, rfl, hb9, hs4, hv4⟩
                have hbz7 := hbz6.trans (hb9.mono hbz6.size)
                have h67 := hb8.trans (hb9.mono hb8.size)
                have HS4 := Lib.hid hs4
                have HV4 := Lib.hid hv4
                have p0 := (h67.cell (p := ⟨g, 0, none⟩) hgl).trans d0
                have p1 := (h67.cell (p := ⟨g, 1, none⟩) hgl).trans d1
                have p2 := (h67.cell (p := ⟨g, 2, none⟩) hgl).trans d2
                have pf := (h67.frozen (p := ⟨g, 2, none⟩) hgl).trans df
                have hown7 := ownS_below hown h67
                have hgl7 : g < w7.heap.size := by have := h67.size; omega
                obtain ⟨okn, hokn⟩ : ∃ okn, (ok && (e1 && e2)) = okn := ⟨_, rfl⟩
                have HOKN := Lib.hid hokn
                clear cc1 hs4 hv4 d0 d1 d2 df hown hokn h67 hb9 hb8
                go_upto_region 13 with fail
                go_cut [5] from 85 to 91 (fun s5 wx => s5 = .bool okn ∧ wx = w7)
                case first =>
                  cases ok <;> cases e1 <;> cases e2
                  all_goals
                    go_wp2_with fail
                    go_meet
                    exact ⟨by rw [← HOKN.out]; rfl, rfl⟩
                case rest =>
                  obtain ⟨rfl, rfl⟩ := hcut
                  obtain ⟨_, _, cc2, cc3⟩ := HCC.out _ hbz7
                  have hbg : b ≠ g := by omega
                  have s1 : IntKind.i64.wrap ((k : Int) + 2) = (k : Int) + 2 := IntWalk.i64_in _ (by omega)
                  have s2 : IntKind.i64.wrap ((k : Int) + 3) = (k : Int) + 3 := IntWalk.i64_in _ (by omega)
                  have z2 : (0 : Int) ≤ (k : Int) + 2 := by omega
                  have z3 : (0 : Int) ≤ (k : Int) + 3 := by omega
                  have y2' : ((k : Int) + 2).toNat = k + 2 := by omega
                  have y3' : ((k : Int) + 3).toNat = k + 3 := by omega
                  go_wp2_with fail
                  go_region_law (refine step_app_elem _ (by rfl) _ _ _ (by rfl) (g + 1) 34 _ 4 48 Try.underlying24 info_tx rfl (by decide) (by decide) _ j _ (by rfl) (by first | exact (hown7.alloc _).drew | exact hown7.alloc _) wc.heap.size (TxD.cells ⟨y1, y2, kk, vv⟩) (by rfl) rfl (by first | exact cells_new_drew _ _ _ | exact cells_new _ _ _) (cells_one _) (by omega) (by simp; omega) ?_; intro v9 w9 ho9 hb10 hg10; obtain ⟨A9, c9, rfl, _, _, _, _, _⟩ := ownS_slice ho9; have r0 := far_g hb10 (by first | exact ((Below.refl _ _).alloc (Nat.le_refl _) _).drew | exact (Below.refl _ _).alloc (Nat.le_refl _) _) hgl7 p0; have r1 := far_g hb10 (by first | exact ((Below.refl _ _).alloc (Nat.le_refl _) _).drew | exact (Below.refl _ _).alloc (Nat.le_refl _) _) hgl7 p1; have r2 := far_g hb10 (by first | exact ((Below.refl _ _).alloc (Nat.le_refl _) _).drew | exact (Below.refl _ _).alloc (Nat.le_refl _) _) hgl7 p2; have rf := far_f hb10 (by first | exact ((Below.refl _ _).alloc (Nat.le_refl _) _).drew | exact (Below.refl _ _).alloc (Nat.le_refl _) _) hgl7 pf; have hbz9 := far_b hb10 (by first | exact ((Below.refl _ _).alloc (Nat.le_refl _) _).drew | exact (Below.refl _ _).alloc (Nat.le_refl _) _) hbz7 hbz7.size (by omega))
                  all_goals
                    obtain ⟨ho', hm'⟩ := rd_up HO.out HM.out HS3.out HV3.out HS4.out HV4.out HOKN.out HRD.out
                    have HO' := Lib.hid ho'
                    have HM' := Lib.hid hm'
                    have ho10 := ownS_conv (n' := j + 1) ho9 (ys := txs (M ++ [⟨y1, y2, kk, vv⟩])) (by rw [txs_append, txs_single]) rfl
                    clear ho' hm' ho9 hown7
                    go_wp2_with fail
                    go_roundw
                    case rel => exact ⟨j + 1, k + 4, okn, M ++ [⟨y1, y2, kk, vv⟩], _, by go_num, by show k + 4 = 3 + 4 * (j + 1); have := HK.out; omega, by omega, rfl, (World.cell?_setCell_other _ _ _ _ (by simp)).trans r0, (World.cell?_setCell_other _ _ _ _ (by simp)).trans r1, World.cell?_setCell_same _ _ _ r2, by rw [World.frozen?_setCell]; exact rf, ownsRow_setCell_below ho10 (by simp) _, HO', HM', hbz9.setCell (by show w2.heap.size ≤ g; omega) _⟩
                    case measure => simp [intOf]; omega
              · have hje : j = j0 := by omega
                have hkn : ¬ (k < nT) := by have := HK.out; have := HJ.out; omega
                have ikn : ¬ ((k : Int) < (nT : Int)) := by omega
                have hR : R.take (4 * j) = R := List.take_of_length_le (by have := HRL.out; have := HJ.out; omega)
                have ho1 := HO.out
                have hm1 := HM.out
                rw [hR] at ho1 hm1
                have HOZ := HOK0.out
                have hML : M.length = j := by have := hown.1; rw [txs_length] at this; omega
                obtain ⟨A9, c9, hv9, hc9, hm9, hr9, _, _⟩ := ownS_slice hown
                obtain ⟨⟨k0, k1, k2⟩, f0, f1, f2⟩ := HCZ.out _ (hb2.trans (hbz.mono hb2.size))
                have hbw : Below w.heap.size w wr := hb3.trans (hbz.mono hb3.size)
                have hgw : w.heap.size < g := by have := hb2.size; omega
                rw [hv9] at d2 hown
                have HML := Lib.hid hML
                cases hok : ok with
                | false =>
                  rw [hok] at ho1
                  have HN := Lib.hid (HPAR.out.trans (parse_not HS1.out HS2.out (by rw [HOZ]; exact ho1.symm)))
                  clear ho1 hm1 hR HOZ hML hok hje
                  go_wp2_with fail
                  refine bodyPost_ret (v := .tuple #[.agg #[.int .i64 0, .int .i64 0, .slice none 0 0], .bool false]) (by simp [results, Try.results23, go_sem, k0, k1, k2]) rfl (rparsed_none HN.out ?_ rfl)
                  exact ((hbw.setCell (by simp) _).setCell (by simp) _).setCell (by simp) _
                | true =>
                  rw [hok] at ho1
                  have hM9 := hm1 hok
                  cases hbt : batB x1 x2 M with
                  | false =>
                    have HN := Lib.hid (HPAR.out.trans (parse_bad HV1.out HV2.out (by rw [← hM9]; exact hbt)))
                    have HB := Lib.hid hbt
                    clear ho1 hm1 hR HOZ hML hok hje hM9 hbt
                    go_wp2_with fail
                    refine (rbatch_is false x1 x2 A9 c9 j M _ HB.out HML.out hr9).mono ?_
                    rintro e w9 ⟨rfl, hb10⟩
                    obtain ⟨⟨k0, k1, k2⟩, f0, f1, f2⟩ := HCZ.out _ ((hb2.trans (hbz.mono hb2.size)).trans (hb10.mono (by have := hb2.size; have := hbz.size; omega)))
                    have hbw9 := hbw.trans (hb10.mono hbw.size)
                    go_wp2_with fail
                    refine bodyPost_ret (v := .tuple #[.agg #[.int .i64 0, .int .i64 0, .slice none 0 0], .bool false]) (by simp [results, Try.results23, go_sem, k0, k1, k2]) rfl (rparsed_none HN.out ?_ rfl)
                    exact ((hbw9.setCell (by simp) _).setCell (by simp) _).setCell (by simp) _
                  | true =>
                    have HN := Lib.hid (HPAR.out.trans (parse_good HWW.out (by have := HRL.out; have := HJ.out; omega) (by have := HRL.out; have := HJ.out; omega) HS1.out HS2.out HV1.out HV2.out (by rw [HOZ]; exact ho1.symm) (by rw [← hM9]; exact hbt)))
                    rw [← hM9] at HN
                    have HB := Lib.hid hbt
                    have hgl : g < wr.heap.size := World.block_lt_of_cell? wr _ d0
                    clear ho1 hm1 hR HOZ hML hok hje hM9 hbt
                    go_wp2_with fail
                    refine (rbatch_is true x1 x2 A9 c9 j M _ HB.out HML.out hr9).mono ?_
                    rintro e w9 ⟨rfl, hb10⟩
                    obtain ⟨⟨k0, k1, k2⟩, f0, f1, f2⟩ := HCZ.out _ ((hb2.trans (hbz.mono hb2.size)).trans (hb10.mono (by have := hb2.size; have := hbz.size; omega)))
                    have hbw9 := hbw.trans (hb10.mono hbw.size)
                    have r0 := (hb10.cell (p := ⟨g, 0, none⟩) hgl).trans d0
                    have r1 := (hb10.cell (p := ⟨g, 1, none⟩) hgl).trans d1
                    have r2 := (hb10.cell (p := ⟨g, 2, none⟩) hgl).trans d2
                    have hown9 := ownS_below hown hb10
                    go_wp2_with fail
                    refine bodyPost_ret (v := .tuple #[.agg #[.int .i64 x1, .int .i64 x2, .slice A9 j c9], .bool true]) (by simp [results, Try.results23, go_sem, k0, k1, k2]) rfl (rparsed_some HN.out HML.out ?_ rfl ?_)
                    · exact ((hbw9.setCell (by simp) _).setCell (by simp) _).setCell (by simp) _
                    · exact ownS_more (ownsRow_setCell_below (ownsRow_setCell_below (ownsRow_setCell_below hown9 (by simp; omega) _) (by simp; omega) _) (by simp; omega) _) (by omega)
        · have ht0 : (t0.toList == [98, 97, 116, 99, 104]) = false := by
            have e1 : ([98, 97, 116, 99, 104] : List UInt8) = batchW.toList := batchW_toList.symm
            rw [e1, beq_eq_false_iff_ne]
            exact fun h => hw (str_toList.1 h)
          have HN := Lib.hid (HPAR.out.trans (by rw [textsB_three, if_neg]; exact fun h => hw h.1))
          clear hcell h4 hr2 hw
          obtain ⟨⟨k0, k1, k2⟩, f0, f1, f2⟩ := HCZ.out _ hb2
          go_wp2_with fail
          refine bodyPost_ret (v := .tuple #[.agg #[.int .i64 0, .int .i64 0, .slice none 0 0], .bool false]) (by simp [results, Try.results23, go_sem, k0, k1, k2]) rfl (rparsed_none HN.out ?_ rfl)
          exact ((hb3.setCell (by simp) _).setCell (by simp) _).setCell (by simp) _
      · have HN := Lib.hid (HPAR.out.trans (textsB_odd (by rw [HNT.out]; omega) (by rw [HNT.out]; exact h4)))
        have i4 : ((nT : Int) % 4 != 3) = true := by simp; omega
        clear h4
        obtain ⟨⟨k0, k1, k2⟩, f0, f1, f2⟩ := HCZ.out _ hb2
        go_wp2_with fail
        refine bodyPost_ret (v := .tuple #[.agg #[.int .i64 0, .int .i64 0, .slice none 0 0], .bool false]) (by simp [results, Try.results23, go_sem, k0, k1, k2]) rfl (rparsed_none HN.out ?_ rfl)
        exact ((hb3.setCell (by simp) _).setCell (by simp) _).setCell (by simp) _

end Go.Proofs.Ytkkamcdilpcehaa
