/-
  The page's reading of a header.
-/
import Derived.Test.YtkgbnohmhjljoaaHPage
namespace Go.Proofs.Ytkgbnohmhjljoaa
open Go.RowKit

theorem str_toListH {a b : ByteArray} : a.toList = b.toList ↔ a = b := by
  constructor
  · intro h
    rw [ByteArray.toList_eq, ByteArray.toList_eq] at h
    obtain ⟨⟨x⟩⟩ := a
    obtain ⟨⟨y⟩⟩ := b
    simp at h
    rw [h]
  · rintro rfl; rfl
theorem headW_toList : headW.toList = [104, 101, 97, 100, 101, 114] := by rw [ByteArray.toList_eq]; rfl
theorem text_inH {zs : List Int} {l : List (List Int)} (hy : Byts zs) (h : getPuts zs = some l) : ∀ s ∈ l, s.length ≤ zs.length := fun s hs => by
  rw [getPuts_get hy h, putPuts, List.length_append]
  have : ∀ (l : List (List Int)), s ∈ l → s.length ≤ (vputs l).length := by
    intro l
    induction l with
    | nil => intro h; simp at h
    | cons x l ih =>
      intro h
      have e : vputs (x :: l) = vnum x.length ++ x ++ vputs l := by simp [vputs]
      rw [e, List.length_append, List.length_append]
      rcases List.mem_cons.1 h with rfl | h
      · omega
      · have := ih h; omega
  have := this l hs
  omega
theorem textsH_odd {T : List ByteArray} (h : T.length ≠ 5) : textsH T = none := by
  match T, h with
  | [], _ => rfl
  | [_], _ => rfl
  | [_, _], _ => rfl
  | [_, _, _], _ => rfl
  | [_, _, _, _], _ => rfl
  | [_, _, _, _, _], h => simp at h
  | _ :: _ :: _ :: _ :: _ :: _ :: _, _ => rfl
theorem textsH_not {t0 t1 t2 t3 t4 : ByteArray} {b1 b2 : Bool} (h1 : (wholeN t1).isSome = b1) (h2 : (wholeN t2).isSome = b2) (h : (b1 && b2 && (numsO t3).isSome && (numsO t4).isSome) = false) : textsH [t0, t1, t2, t3, t4] = none := by
  rw [textsH_five, if_neg]
  rintro ⟨_, g1, g2, g3, g4, _⟩
  rw [h1] at g1
  rw [h2] at g2
  rw [g1, g2, g3, g4] at h
  cases h
theorem textsH_bad {t0 t1 t2 t3 t4 : ByteArray} {x1 x2 : Int} {B P : List Int} (h1 : ∀ m, wholeN t1 = some m → x1 = (m : Int)) (h2 : ∀ m, wholeN t2 = some m → x2 = (m : Int)) (h3 : numsO t3 = some B) (h4 : numsO t4 = some P) (h : wideB x1 x2 B P = false) : textsH [t0, t1, t2, t3, t4] = none := by
  rw [textsH_five, if_neg]
  rintro ⟨_, g1, g2, _, _, g5⟩
  rw [Option.isSome_iff_exists] at g1 g2
  obtain ⟨m, hm⟩ := g1
  obtain ⟨m', hm'⟩ := g2
  rw [hm, hm', h3, h4, Option.getD_some, Option.getD_some, Option.getD_some, Option.getD_some, ← h1 m hm, ← h2 m' hm', h] at g5
  cases g5
theorem textsH_good {t0 t1 t2 t3 t4 : ByteArray} {x1 x2 : Int} {B P : List Int} (h0 : t0 = headW) (e1 : (wholeN t1).isSome = true) (e2 : (wholeN t2).isSome = true) (h1 : ∀ m, wholeN t1 = some m → x1 = (m : Int)) (h2 : ∀ m, wholeN t2 = some m → x2 = (m : Int)) (h3 : numsO t3 = some B) (h4 : numsO t4 = some P) (h : wideB x1 x2 B P = true) :
    textsH [t0, t1, t2, t3, t4] = some (x1, x2, B, P) := by
  rw [Option.isSome_iff_exists] at e1 e2
  obtain ⟨m, hm⟩ := e1
  obtain ⟨m', hm'⟩ := e2
  have a1 := h1 m hm
  have a2 := h2 m' hm'
  rw [textsH_five, hm, hm', h3, h4, Option.getD_some, Option.getD_some, Option.getD_some, Option.getD_some, ← a1, ← a2, if_pos ⟨h0, rfl, rfl, rfl, rfl, h⟩]

theorem putNums_ge (l : List Nat) : l.length ≤ (putNums l).length := by
  have : ∀ l : List Nat, l.length ≤ (vnums l).length := by
    intro l
    induction l with
    | nil => simp
    | cons m l ih =>
      have h1 := vnum_pos m
      have e : vnums (m :: l) = vnum m ++ vnums l := by simp [vnums]
      rw [e, List.length_append, List.length_cons]
      omega
  have := this l
  rw [putNums, List.length_append]
  omega

/-- a header that is told, or none -/
def RParsedH (w : World) (r : Option (Int × Int × List Int × List Int)) (e : Ending) (w' : World) : Prop :=
  Below w.heap.size w w' ∧ match r with
  | some (a, r, B, P) => ∃ AB cB AP cP, e = .returned (.tuple #[.agg #[.int .i64 a, .int .i64 r, .slice AB B.length cB, .slice AP P.length cP], .bool true]) ∧ w'.ownsRow w.heap.size 3 1 (.slice AB B.length cB) B.length (i64s B) ∧ w'.ownsRow w.heap.size 3 1 (.slice AP P.length cP) P.length (i64s P)
  | none => e = .returned (.tuple #[.agg #[.int .i64 0, .int .i64 0, .slice none 0 0, .slice none 0 0], .bool false])
theorem rparsedH_none {w w' : World} {r : Option (Int × Int × List Int × List Int)} {e : Ending} (h : r = none) (hb : Below w.heap.size w w') (he : e = .returned (.tuple #[.agg #[.int .i64 0, .int .i64 0, .slice none 0 0, .slice none 0 0], .bool false])) : RParsedH w r e w' := by
  subst h; exact ⟨hb, he⟩
theorem rparsedH_some {w w' : World} {q : Option (Int × Int × List Int × List Int)} {e : Ending} {a r : Int} {B P : List Int} {AB AP : Option Addr} {cB cP nB nP : Nat} (h : q = some (a, r, B, P)) (hB : B.length = nB) (hP : P.length = nP) (hb : Below w.heap.size w w') (he : e = .returned (.tuple #[.agg #[.int .i64 a, .int .i64 r, .slice AB nB cB, .slice AP nP cP], .bool true]))
    (hoB : w'.ownsRow w.heap.size 3 1 (.slice AB nB cB) nB (i64s B)) (hoP : w'.ownsRow w.heap.size 3 1 (.slice AP nP cP) nP (i64s P)) : RParsedH w q e w' := by
  subst h hB hP; exact ⟨hb, AB, cB, AP, cP, he, hoB, hoP⟩

set_option maxRecDepth 100000 in
set_option maxHeartbeats 100000000 in
theorem rparseH_any (A : Option Addr) (c n : Nat) (zs : List Int) (w : World) (hz : zs.length = n) (hr : Rd w A (u8s zs)) (hy : Byts zs) (hc : n ≤ c) (hcm : c ≤ maxLen) (hn : n ≤ 1048576) :
    Calls Try.prog 24 #[.slice A n c] w (RParsedH w (parseH zs)) := by
  have hcv := fun (w : World) (s : ByteArray) => Lib.run_convert_string_bytes (P := Try.prog) w 9 28 5 s Try.underlying9 Try.underlying28 Try.underlying5
  have HZ := Lib.hid hz
  clear hz
  obtain ⟨w1, hw1⟩ : ∃ w1, w1 = w.alloc (.cells #[.int .i64 0, .int .i64 0, .slice none 0 0, .slice none 0 0] 25) := ⟨_, rfl⟩
  have hb1 : Below w.heap.size w w1 := by rw [hw1]; exact (Below.refl _ _).alloc (Nat.le_refl _) _
  have hs1 : w.heap.size < w1.heap.size := by rw [hw1]; simp
  have hr1 : Rd w1 A (u8s zs) := hr.below hb1
  have hcz : (∀ wX, Below w1.heap.size w1 wX → (wX.cell? ⟨w.heap.size, 0, none⟩ = some (.int .i64 0) ∧ wX.cell? ⟨w.heap.size, 1, none⟩ = some (.int .i64 0) ∧ wX.cell? ⟨w.heap.size, 2, none⟩ = some (.slice none 0 0) ∧ wX.cell? ⟨w.heap.size, 3, none⟩ = some (.slice none 0 0)) ∧
      wX.frozen? ⟨w.heap.size, 0, none⟩ = false ∧ wX.frozen? ⟨w.heap.size, 1, none⟩ = false ∧ wX.frozen? ⟨w.heap.size, 2, none⟩ = false ∧ wX.frozen? ⟨w.heap.size, 3, none⟩ = false) := fun wX h => by
    refine ⟨⟨(h.cell (p := ⟨w.heap.size, 0, none⟩) hs1).trans ?_, (h.cell (p := ⟨w.heap.size, 1, none⟩) hs1).trans ?_, (h.cell (p := ⟨w.heap.size, 2, none⟩) hs1).trans ?_, (h.cell (p := ⟨w.heap.size, 3, none⟩) hs1).trans ?_⟩, (h.frozen (p := ⟨w.heap.size, 0, none⟩) hs1).trans ?_, (h.frozen (p := ⟨w.heap.size, 1, none⟩) hs1).trans ?_, (h.frozen (p := ⟨w.heap.size, 2, none⟩) hs1).trans ?_, (h.frozen (p := ⟨w.heap.size, 3, none⟩) hs1).trans ?_⟩
    all_goals rw [hw1]
    all_goals first | (rw [World.cell?_alloc_at _ _ _ _ rfl]; rfl) | (rw [World.frozen?, heap_alloc_new]; simp)
  have HCZ := Lib.hid hcz
  have HW1 := Lib.hid hw1
  clear hcz hw1
  cases hg : getPuts zs with
  | none =>
    have HN : Hid (parseH zs = none) := by show parseH zs = none; unfold parseH; rw [hg]; rfl
    have HG := Lib.hid hg
    clear hg
    go_enter Try.func24, Try.ntmps24
    go_wp2_with fail
    rw [← HW1.out]
    refine (rgetPuts_any A c n zs _ HZ.out hr1 hy hc hcm hn).mono ?_
    rintro e w2 hgot
    rw [HG.out] at hgot
    obtain ⟨v2, rfl, hb2⟩ := hgot
    obtain ⟨⟨k0, k1, k2, k3⟩, f0, f1, f2, f3⟩ := HCZ.out _ hb2
    have hb3 := hb1.trans (hb2.mono hb1.size)
    go_wp2_with fail
    refine bodyPost_ret (v := .tuple #[.agg #[.int .i64 0, .int .i64 0, .slice none 0 0, .slice none 0 0], .bool false]) (by simp [results, Try.results24, go_sem, k0, k1, k2, k3]) rfl (rparsedH_none HN.out ?_ rfl)
    exact (((hb3.setCell (by simp) _).setCell (by simp) _).setCell (by simp) _).setCell (by simp) _
  | some l =>
    obtain ⟨T, hT⟩ : ∃ T, l.map strOfNums = T := ⟨_, rfl⟩
    obtain ⟨nT, hnT⟩ : ∃ nT, T.length = nT := ⟨_, rfl⟩
    have hpar : parseH zs = textsH T := by unfold parseH; rw [hg, Option.bind_some, hT]
    have hsml : ∀ s ∈ T, s.size ≤ 1048576 := by
      intro s hs
      rw [← hT] at hs
      obtain ⟨x, hx, rfl⟩ := List.mem_map.1 hs
      have h1 := text_inH hy hg x hx
      have h2 := congrArg List.length (byt_of (getPuts_byts hy hg x hx))
      rw [byt_length] at h2
      rw [h2]
      have := HZ.out
      omega
    have HTO : Hid (textsOf (getPuts zs) = some (strs T)) := by show textsOf (getPuts zs) = some (strs T); rw [hg]; simp only [textsOf, Option.map_some, hT]
    have HPAR := Lib.hid hpar
    have HSML := Lib.hid hsml
    have HNT := Lib.hid hnT
    clear hg hT hnT hpar hsml
    go_enter Try.func24, Try.ntmps24
    go_wp2_with fail
    rw [← HW1.out]
    refine (rgetPuts_any A c n zs _ HZ.out hr1 hy hc hcm hn).mono ?_
    rintro e w2 hgot
    rw [HTO.out] at hgot
    obtain ⟨v2, rfl, ho2, hb2⟩ := hgot
    have ho2b := own_cast ho2 ((strs_length T).trans HNT.out)
    obtain ⟨A2, c2, rfl, hc2, hm2, hr2, _, hl2⟩ := own_val ho2b
    unfold maxLen at hm2
    clear hl2 ho2 ho2b
    have hb3 := hb1.trans (hb2.mono hb1.size)
    by_cases h5 : nT = 5
    · obtain ⟨t0, t1, t2, t3, t4, rfl⟩ : ∃ t0 t1 t2 t3 t4, T = [t0, t1, t2, t3, t4] := by
        have := HNT.out
        rw [h5] at this
        match T, this with
        | [a, b, c, d, e], _ => exact ⟨a, b, c, d, e, rfl⟩
      subst h5
      obtain ⟨b, off, rfl, hbl, hcell⟩ := hr2.open_ (by simp [strs])
      have HC : Hid (∀ wX, Below w2.heap.size w2 wX → ∀ i s, [t0, t1, t2, t3, t4][i]? = some s → wX.cell? ⟨b, off + i, none⟩ = some (.string s)) := fun wX hX i s hs =>
        (hX.cell (p := ⟨b, off + i, none⟩) hbl).trans (hcell i _ (by simp only [strs, List.getElem?_map, hs, Option.map_some]))
      have q0 : w2.cell? ⟨b, off, none⟩ = some (.string t0) := HC.out _ (Below.refl _ _) 0 _ rfl
      by_cases hw : t0 = headW
      · have ht0 : (t0.toList == [104, 101, 97, 100, 101, 114]) = true := by rw [hw, headW_toList]; rfl
        have q1 : w2.cell? ⟨b, off + 1, none⟩ = some (.string t1) := HC.out _ (Below.refl _ _) 1 _ rfl
        have HWW := Lib.hid hw
        have HZ1 := Lib.hid (HSML.out t1 (by simp))
        have HZ2 := Lib.hid (HSML.out t2 (by simp))
        have HZ3 := Lib.hid (HSML.out t3 (by simp))
        have HZ4 := Lib.hid (HSML.out t4 (by simp))
        clear hcell hr2 hw
        go_wp2_with fail
        refine (rwhole_any t1 _ HZ1.out).mono ?_
        rintro e w3 ⟨x1, b1, rfl, hb4, hs1', hv1⟩
        have HS1 := Lib.hid hs1'
        have HV1 := Lib.hid hv1
        have q2 : w3.cell? ⟨b, off + 2, none⟩ = some (.string t2) := HC.out _ hb4 2 _ rfl
        clear q0 q1 hs1' hv1
        go_wp2_with fail
        refine (rwhole_any t2 _ HZ2.out).mono ?_
        rintro e w4 ⟨x2, b2, rfl, hb5, hs2, hv2⟩
        have HS2 := Lib.hid hs2
        have HV2 := Lib.hid hv2
        have hb6 := hb4.trans (hb5.mono hb4.size)
        have q3 : w4.cell? ⟨b, off + 3, none⟩ = some (.string t3) := HC.out _ hb6 3 _ rfl
        clear q2 hs2 hv2 hb5 hb4
        have HT3 := Lib.hid (text_below w4 5 t3)
        have hrd3 := text_rd w4 5 t3
        rw [← byt_cells] at hrd3
        go_wp2_with fail
        refine (rgetNums_all _ _ t3.size (byt t3) _ (byt_length t3) hrd3 (byt_byts t3) (grownCap_ge _ _ _ _) (grownCap_le_maxLen _ _ _ _ (by have := HZ3.out; unfold maxLen; omega)) HZ3.out).mono ?_
        rintro e w5 hgot3
        have HO3 : Hid (numsO t3 = (getNums (byt t3)).map nats) := by show numsO t3 = _; rfl
        cases hg3 : getNums (byt t3) with
        | none =>
          rw [hg3] at hgot3
          obtain ⟨A5, n5, c5, rfl, hb5⟩ := hgot3
          have HG3 := Lib.hid hg3
          clear hg3
          have hb7 := hb6.trans ((HT3.out.trans (hb5.mono HT3.out.size)).mono hb6.size)
          have q4 : w5.cell? ⟨b, off + 4, none⟩ = some (.string t4) := HC.out _ hb7 4 _ rfl
          have HT4 := Lib.hid (text_below w5 5 t4)
          have hrd4 := text_rd w5 5 t4
          rw [← byt_cells] at hrd4
          clear q3 hrd3
          go_wp2_with fail
          refine (rgetNums_all _ _ t4.size (byt t4) _ (byt_length t4) hrd4 (byt_byts t4) (grownCap_ge _ _ _ _) (grownCap_le_maxLen _ _ _ _ (by have := HZ4.out; unfold maxLen; omega)) HZ4.out).mono ?_
          rintro e w6 hgot4
          have HO4 : Hid (numsO t4 = (getNums (byt t4)).map nats) := by show numsO t4 = _; rfl
          cases hg4 : getNums (byt t4) with
          | none =>
            rw [hg4] at hgot4
            obtain ⟨A6, n6, c6, rfl, hb8⟩ := hgot4
            have HG4 := Lib.hid hg4
            clear hg4
            have hb9 := hb7.trans ((HT4.out.trans (hb8.mono HT4.out.size)).mono hb7.size)
            have hbw : Below w.heap.size w w6 := hb3.trans (hb9.mono hb3.size)
            clear q4 hrd4
            cases b1 <;> cases b2
            all_goals
              have HN : Hid (parseH zs = none) := HPAR.out.trans (textsH_not HS1.out HS2.out (by first | rfl | (rw [HO3.out, HG3.out]; rfl) | (rw [HO4.out, HG4.out]; simp)))
              have hX6 : Below w1.heap.size w1 w6 := hb2.trans (hb9.mono hb2.size)
              obtain ⟨⟨k0, k1, k2, k3⟩, f0, f1, f2, f3⟩ := HCZ.out _ (hX6.alloc hX6.size (.cells #[.int .i64 x1, .int .i64 x2, .slice A5 n5 c5, .slice A6 n6 c6] 25))
              go_wp2_with fail
              refine bodyPost_ret (v := .tuple #[.agg #[.int .i64 0, .int .i64 0, .slice none 0 0, .slice none 0 0], .bool false]) (by simp [results, Try.results24, go_sem, k0, k1, k2, k3]) rfl (rparsedH_none HN.out ?_ rfl)
              exact ((((hbw.alloc hbw.size _).setCell (by simp) _).setCell (by simp) _).setCell (by simp) _).setCell (by simp) _
          | some L4 =>
            rw [hg4] at hgot4
            obtain ⟨v6, rfl, ho6, hb8⟩ := hgot4
            obtain ⟨n4, hn4⟩ : ∃ n4, (nats L4).length = n4 := ⟨_, rfl⟩
            have ho6b := own_cast ho6 ((i64s_length _).trans hn4)
            obtain ⟨A6, c6, rfl, _, _, hr6, _, _⟩ := own_val ho6b
            have HG4 := Lib.hid hg4
            have HN4 := Lib.hid hn4
            clear hg4 hn4 ho6
            have hb9 := hb7.trans ((HT4.out.trans (hb8.mono HT4.out.size)).mono hb7.size)
            have hbw : Below w.heap.size w w6 := hb3.trans (hb9.mono hb3.size)
            clear q4 hrd4
            cases b1 <;> cases b2
            all_goals
              have HN : Hid (parseH zs = none) := HPAR.out.trans (textsH_not HS1.out HS2.out (by first | rfl | (rw [HO3.out, HG3.out]; rfl) | (rw [HO4.out, HG4.out]; simp)))
              have hX6 : Below w1.heap.size w1 w6 := hb2.trans (hb9.mono hb2.size)
              obtain ⟨⟨k0, k1, k2, k3⟩, f0, f1, f2, f3⟩ := HCZ.out _ (hX6.alloc hX6.size (.cells #[.int .i64 x1, .int .i64 x2, .slice A5 n5 c5, .slice A6 n4 c6] 25))
              go_wp2_with fail
              refine bodyPost_ret (v := .tuple #[.agg #[.int .i64 0, .int .i64 0, .slice none 0 0, .slice none 0 0], .bool false]) (by simp [results, Try.results24, go_sem, k0, k1, k2, k3]) rfl (rparsedH_none HN.out ?_ rfl)
              exact ((((hbw.alloc hbw.size _).setCell (by simp) _).setCell (by simp) _).setCell (by simp) _).setCell (by simp) _
        | some L3 =>
          rw [hg3] at hgot3
          obtain ⟨v5, rfl, ho5, hb5⟩ := hgot3
          obtain ⟨n3, hn3⟩ : ∃ n3, (nats L3).length = n3 := ⟨_, rfl⟩
          have ho5b := own_cast ho5 ((i64s_length _).trans hn3)
          obtain ⟨A5, c5, rfl, _, _, hr5, _, _⟩ := own_val ho5b
          have HG3 := Lib.hid hg3
          have HN3 := Lib.hid hn3
          clear hg3 hn3 ho5
          have hb7 := hb6.trans ((HT3.out.trans (hb5.mono HT3.out.size)).mono hb6.size)
          have q4 : w5.cell? ⟨b, off + 4, none⟩ = some (.string t4) := HC.out _ hb7 4 _ rfl
          have HT4 := Lib.hid (text_below w5 5 t4)
          have hrd4 := text_rd w5 5 t4
          rw [← byt_cells] at hrd4
          clear q3 hrd3
          go_wp2_with fail
          refine (rgetNums_all _ _ t4.size (byt t4) _ (byt_length t4) hrd4 (byt_byts t4) (grownCap_ge _ _ _ _) (grownCap_le_maxLen _ _ _ _ (by have := HZ4.out; unfold maxLen; omega)) HZ4.out).mono ?_
          rintro e w6 hgot4
          have HO4 : Hid (numsO t4 = (getNums (byt t4)).map nats) := by show numsO t4 = _; rfl
          cases hg4 : getNums (byt t4) with
          | none =>
            rw [hg4] at hgot4
            obtain ⟨A6, n6, c6, rfl, hb8⟩ := hgot4
            have HG4 := Lib.hid hg4
            clear hg4
            have hb9 := hb7.trans ((HT4.out.trans (hb8.mono HT4.out.size)).mono hb7.size)
            have hbw : Below w.heap.size w w6 := hb3.trans (hb9.mono hb3.size)
            clear q4 hrd4
            cases b1 <;> cases b2
            all_goals
              have HN : Hid (parseH zs = none) := HPAR.out.trans (textsH_not HS1.out HS2.out (by first | rfl | (rw [HO3.out, HG3.out]; rfl) | (rw [HO4.out, HG4.out]; simp)))
              have hX6 : Below w1.heap.size w1 w6 := hb2.trans (hb9.mono hb2.size)
              obtain ⟨⟨k0, k1, k2, k3⟩, f0, f1, f2, f3⟩ := HCZ.out _ (hX6.alloc hX6.size (.cells #[.int .i64 x1, .int .i64 x2, .slice A5 n3 c5, .slice A6 n6 c6] 25))
              go_wp2_with fail
              refine bodyPost_ret (v := .tuple #[.agg #[.int .i64 0, .int .i64 0, .slice none 0 0, .slice none 0 0], .bool false]) (by simp [results, Try.results24, go_sem, k0, k1, k2, k3]) rfl (rparsedH_none HN.out ?_ rfl)
              exact ((((hbw.alloc hbw.size _).setCell (by simp) _).setCell (by simp) _).setCell (by simp) _).setCell (by simp) _
          | some L4 =>
            rw [hg4] at hgot4
            obtain ⟨v6, rfl, ho6, hb8⟩ := hgot4
            obtain ⟨n4, hn4⟩ : ∃ n4, (nats L4).length = n4 := ⟨_, rfl⟩
            have ho6b := own_cast ho6 ((i64s_length _).trans hn4)
            obtain ⟨A6, c6, rfl, _, _, hr6, _, _⟩ := own_val ho6b
            have HG4 := Lib.hid hg4
            have HN4 := Lib.hid hn4
            clear hg4 hn4 ho6
            have hb9 := hb7.trans ((HT4.out.trans (hb8.mono HT4.out.size)).mono hb7.size)
            have hbw : Below w.heap.size w w6 := hb3.trans (hb9.mono hb3.size)
            clear q4 hrd4
            have ho5c := own_below ho5b (HT4.out.trans (hb8.mono HT4.out.size))
            have h6b : Below w2.heap.size w2 w6 := hb9
            cases b1 with
            | false =>
              cases b2
              all_goals
                have HN : Hid (parseH zs = none) := HPAR.out.trans (textsH_not HS1.out HS2.out (by first | rfl | (rw [HO3.out, HG3.out]; rfl) | (rw [HO4.out, HG4.out]; simp)))
                have hX6 : Below w1.heap.size w1 w6 := hb2.trans (hb9.mono hb2.size)
                obtain ⟨⟨k0, k1, k2, k3⟩, f0, f1, f2, f3⟩ := HCZ.out _ (hX6.alloc hX6.size (.cells #[.int .i64 x1, .int .i64 x2, .slice A5 n3 c5, .slice A6 n4 c6] 25))
                go_wp2_with fail
                refine bodyPost_ret (v := .tuple #[.agg #[.int .i64 0, .int .i64 0, .slice none 0 0, .slice none 0 0], .bool false]) (by simp [results, Try.results24, go_sem, k0, k1, k2, k3]) rfl (rparsedH_none HN.out ?_ rfl)
                exact ((((hbw.alloc hbw.size _).setCell (by simp) _).setCell (by simp) _).setCell (by simp) _).setCell (by simp) _
            | true =>
              cases b2 with
              | false =>
                have HN : Hid (parseH zs = none) := HPAR.out.trans (textsH_not HS1.out HS2.out rfl)
                have hX6 : Below w1.heap.size w1 w6 := hb2.trans (hb9.mono hb2.size)
                obtain ⟨⟨k0, k1, k2, k3⟩, f0, f1, f2, f3⟩ := HCZ.out _ (hX6.alloc hX6.size (.cells #[.int .i64 x1, .int .i64 x2, .slice A5 n3 c5, .slice A6 n4 c6] 25))
                go_wp2_with fail
                refine bodyPost_ret (v := .tuple #[.agg #[.int .i64 0, .int .i64 0, .slice none 0 0, .slice none 0 0], .bool false]) (by simp [results, Try.results24, go_sem, k0, k1, k2, k3]) rfl (rparsedH_none HN.out ?_ rfl)
                exact ((((hbw.alloc hbw.size _).setCell (by simp) _).setCell (by simp) _).setCell (by simp) _).setCell (by simp) _
              | true =>
                have hnB : n3 ≤ 1073741824 := by have := getNums_get (byt_byts t3) HG3.out; have h2 := congrArg List.length this; rw [byt_length] at h2; have h3 := HN3.out; have h4 := HZ3.out; rw [nats_length] at h3; have h5 := putNums_ge L3; omega
                have hnP : n4 ≤ 1073741824 := by have := getNums_get (byt_byts t4) HG4.out; have h2 := congrArg List.length this; rw [byt_length] at h2; have h3 := HN4.out; have h4 := HZ4.out; rw [nats_length] at h3; have h5 := putNums_ge L4; omega
                obtain ⟨wb, hwb⟩ : ∃ wb, wb = w6.alloc (.cells #[.int .i64 x1, .int .i64 x2, .slice A5 n3 c5, .slice A6 n4 c6] 25) := ⟨_, rfl⟩
                obtain ⟨g, hgg⟩ : ∃ g, g = w6.heap.size := ⟨_, rfl⟩
                have hxb : Below w6.heap.size w6 wb := by rw [hwb]; exact (Below.refl _ _).alloc (Nat.le_refl _) _
                have hgl : g < wb.heap.size := by rw [hwb, hgg]; simp
                have d0 : wb.cell? ⟨g, 0, none⟩ = some (.int .i64 x1) := by rw [hwb, hgg, World.cell?_alloc_at _ _ _ _ rfl]; rfl
                have d1 : wb.cell? ⟨g, 1, none⟩ = some (.int .i64 x2) := by rw [hwb, hgg, World.cell?_alloc_at _ _ _ _ rfl]; rfl
                have d2 : wb.cell? ⟨g, 2, none⟩ = some (.slice A5 n3 c5) := by rw [hwb, hgg, World.cell?_alloc_at _ _ _ _ rfl]; rfl
                have d3 : wb.cell? ⟨g, 3, none⟩ = some (.slice A6 n4 c6) := by rw [hwb, hgg, World.cell?_alloc_at _ _ _ _ rfl]; rfl
                have hob := own_below ho5c hxb
                have hop := own_below ho6b hxb
                obtain ⟨_, _, hv7, _, _, hr7, _, _⟩ := own_val hob
                cases hv7
                obtain ⟨_, _, hv8, _, _, hr8, _, _⟩ := own_val hop
                cases hv8
                have hb10 := hb9.trans (hxb.mono hb9.size)
                have hbw10 := hbw.trans (hxb.mono hbw.size)
                have hsg : w.heap.size < g := by rw [hgg]; have := hs1; have := hb2.size; have := hb9.size; omega
                have HWB := Lib.hid hwb
                have HGG := Lib.hid hgg
                have hg6 : g = w6.heap.size := hgg
                have hl5 : w.heap.size < (Lib.bytesWorld w4 5 t3).heap.size := by have := hs1; have := hb2.size; have := hb6.size; have := HT3.out.size; omega
                have hl6 : w.heap.size < (Lib.bytesWorld w5 5 t4).heap.size := by have := hs1; have := hb2.size; have := hb7.size; have := HT4.out.size; omega
                clear hwb hgg
                cases hwd : wideB x1 x2 (nats L3) (nats L4) with
                | false =>
                  have HD := Lib.hid hwd
                  have HN : Hid (parseH zs = none) := HPAR.out.trans (textsH_bad HV1.out HV2.out (by rw [HO3.out, HG3.out]; rfl) (by rw [HO4.out, HG4.out]; rfl) hwd)
                  clear hwd
                  go_wp2_with fail
                  rw [← HWB.out]
                  refine (rwide_is false x1 x2 A5 c5 n3 (nats L3) A6 c6 n4 (nats L4) _ HD.out HN3.out hr7 hnB HN4.out hr8 hnP).mono ?_
                  rintro e w8 ⟨rfl, hb11⟩
                  have hb12 := hb10.trans (hb11.mono hb10.size)
                  have hbw12 := hbw10.trans (hb11.mono hbw10.size)
                  obtain ⟨⟨k0, k1, k2, k3⟩, f0, f1, f2, f3⟩ := HCZ.out _ (hb2.trans (hb12.mono hb2.size))
                  go_wp2_with fail
                  refine bodyPost_ret (v := .tuple #[.agg #[.int .i64 0, .int .i64 0, .slice none 0 0, .slice none 0 0], .bool false]) (by simp [results, Try.results24, go_sem, k0, k1, k2, k3]) rfl (rparsedH_none HN.out ?_ rfl)
                  exact (((hbw12.setCell (by simp) _).setCell (by simp) _).setCell (by simp) _).setCell (by simp) _
                | true =>
                  have HD := Lib.hid hwd
                  have HN : Hid (parseH zs = some (x1, x2, nats L3, nats L4)) := HPAR.out.trans (textsH_good HWW.out HS1.out HS2.out HV1.out HV2.out (by rw [HO3.out, HG3.out]; rfl) (by rw [HO4.out, HG4.out]; rfl) hwd)
                  clear hwd
                  go_wp2_with fail
                  rw [← HWB.out]
                  refine (rwide_is true x1 x2 A5 c5 n3 (nats L3) A6 c6 n4 (nats L4) _ HD.out HN3.out hr7 hnB HN4.out hr8 hnP).mono ?_
                  rintro e w8 ⟨rfl, hb11⟩
                  have hb12 := hb10.trans (hb11.mono hb10.size)
                  have hbw12 := hbw10.trans (hb11.mono hbw10.size)
                  obtain ⟨⟨k0, k1, k2, k3⟩, f0, f1, f2, f3⟩ := HCZ.out _ (hb2.trans (hb12.mono hb2.size))
                  have r0 := (hb11.cell (p := ⟨g, 0, none⟩) hgl).trans d0
                  have r1 := (hb11.cell (p := ⟨g, 1, none⟩) hgl).trans d1
                  have r2 := (hb11.cell (p := ⟨g, 2, none⟩) hgl).trans d2
                  have r3 := (hb11.cell (p := ⟨g, 3, none⟩) hgl).trans d3
                  have rr0 : w8.cell? ⟨w6.heap.size, 0, none⟩ = some (.int .i64 x1) := by rw [← hg6]; exact r0
                  have rr1 : w8.cell? ⟨w6.heap.size, 1, none⟩ = some (.int .i64 x2) := by rw [← hg6]; exact r1
                  have rr2 : w8.cell? ⟨w6.heap.size, 2, none⟩ = some (.slice A5 n3 c5) := by rw [← hg6]; exact r2
                  have rr3 : w8.cell? ⟨w6.heap.size, 3, none⟩ = some (.slice A6 n4 c6) := by rw [← hg6]; exact r3
                  have hob8 := own_below hob hb11
                  have hop8 := own_below hop hb11
                  go_wp2_with fail
                  refine bodyPost_ret (v := .tuple #[.agg #[.int .i64 x1, .int .i64 x2, .slice A5 n3 c5, .slice A6 n4 c6], .bool true]) (by simp [results, Try.results24, go_sem, k0, k1, k2, k3]) rfl (rparsedH_some HN.out HN3.out HN4.out ?_ rfl ?_ ?_)
                  · exact (((hbw12.setCell (by simp) _).setCell (by simp) _).setCell (by simp) _).setCell (by simp) _
                  · exact ownS_more (ownsRow_setCell_below (ownsRow_setCell_below (ownsRow_setCell_below (ownsRow_setCell_below hob8 hl5 _) hl5 _) hl5 _) hl5 _) (Nat.le_of_lt hl5)
                  · exact ownS_more (ownsRow_setCell_below (ownsRow_setCell_below (ownsRow_setCell_below (ownsRow_setCell_below hop8 hl6 _) hl6 _) hl6 _) hl6 _) (Nat.le_of_lt hl6)
      · have ht0 : (t0.toList == [104, 101, 97, 100, 101, 114]) = false := by
          have e1 : ([104, 101, 97, 100, 101, 114] : List UInt8) = headW.toList := headW_toList.symm
          rw [e1, beq_eq_false_iff_ne]
          exact fun h => hw (str_toListH.1 h)
        have HN := Lib.hid (HPAR.out.trans (by rw [textsH_five, if_neg]; exact fun h => hw h.1))
        clear hcell hr2 hw
        obtain ⟨⟨k0, k1, k2, k3⟩, f0, f1, f2, f3⟩ := HCZ.out _ hb2
        go_wp2_with fail
        refine bodyPost_ret (v := .tuple #[.agg #[.int .i64 0, .int .i64 0, .slice none 0 0, .slice none 0 0], .bool false]) (by simp [results, Try.results24, go_sem, k0, k1, k2, k3]) rfl (rparsedH_none HN.out ?_ rfl)
        exact (((hb3.setCell (by simp) _).setCell (by simp) _).setCell (by simp) _).setCell (by simp) _
    · have HN := Lib.hid (HPAR.out.trans (textsH_odd (by rw [HNT.out]; exact h5)))
      have i5 : ((nT : Int) == 5) = false := by simp; omega
      have i5n : ((nT : Int) != 5) = true := by simp; omega
      clear h5
      obtain ⟨⟨k0, k1, k2, k3⟩, f0, f1, f2, f3⟩ := HCZ.out _ hb2
      go_wp2_with fail
      refine bodyPost_ret (v := .tuple #[.agg #[.int .i64 0, .int .i64 0, .slice none 0 0, .slice none 0 0], .bool false]) (by simp [results, Try.results24, go_sem, k0, k1, k2, k3]) rfl (rparsedH_none HN.out ?_ rfl)
      exact (((hb3.setCell (by simp) _).setCell (by simp) _).setCell (by simp) _).setCell (by simp) _

end Go.Proofs.Ytkgbnohmhjljoaa
