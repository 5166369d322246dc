/-
  Package batch's Parse.
-/
import Derived.Test.YtafkcofocjellaaBShape
namespace Go.Proofs.Ytafkcofocjellaa
open Go.RowKit

theorem rdT_cat : ∀ (j : Nat) (a r : List ByteArray), a.length = 4 * j → (rdT (a ++ r)).2 = ((rdT a).2 && (rdT r).2)
  | 0, a, r, h => by
    have : a = [] := List.eq_nil_of_length_eq_zero (by omega)
    subst this
    simp [rdT]
  | j + 1, a, r, h => by
    obtain ⟨s, q, k, v, a', rfl, hl⟩ := four h
    have ih := rdT_cat j a' r hl
    show (rdT (s :: q :: k :: v :: (a' ++ r))).2 = _
    rw [rdT_four, rdT_four, ih]
    simp [Bool.and_assoc]
theorem rd_false {R : List ByteArray} {j : Nat} (h4 : 4 * (j + 1) ≤ R.length) (h : (rdT (R.take (4 * (j + 1)))).2 = false) : (rdT R).2 = false := by
  have := rdT_cat (j + 1) (R.take (4 * (j + 1))) (R.drop (4 * (j + 1))) (by rw [List.length_take]; omega)
  rw [List.take_append_drop] at this
  rw [this, h]; rfl

theorem Rd.at_ {w w' : World} {b off B : Nat} {xs : List Value} (h : Rd w (some ⟨b, off, none⟩) xs) (hB : b < B) (hb : Below B w w') : Rd w' (some ⟨b, off, none⟩) xs := fun hx => by
  obtain ⟨b', off', e, hl, hc⟩ := h hx
  cases e
  exact ⟨b, off, rfl, Nat.lt_of_lt_of_le hl hb.size, fun i v hv => (hb.cell (p := ⟨b, off + i, none⟩) hB).trans (hc i v hv)⟩
theorem Rd.set_ {w : World} {b off g i : Nat} {u : Value} {xs : List Value} (h : Rd w (some ⟨b, off, none⟩) xs) (hne : b ≠ g) : Rd (w.setCell ⟨g, i, none⟩ u) (some ⟨b, off, none⟩) xs := fun hx => by
  obtain ⟨b', off', e, hl, hc⟩ := h hx
  cases e
  exact ⟨b, off, rfl, by simpa using hl, fun i' v hv => (World.cell?_setCell_other _ _ _ _ (by simp)).trans (hc i' v hv)⟩

theorem rd_str {w : World} {b off : Nat} {T : List ByteArray} (h : Rd w (some ⟨b, off, none⟩) (strs T)) {k : Nat} {s : ByteArray} (hk : T[k]? = some s) : w.cell? ⟨b, off + k, none⟩ = some (.string s) := by
  obtain ⟨b', off', e, _, hc⟩ := h (fun e => by
    have : T = [] := by cases T with | nil => rfl | cons x T => simp [strs] at e
    subst this; simp at hk)
  cases e
  exact hc k _ (by simp only [strs, List.getElem?_map, hk, Option.map_some])

theorem rd_stop {R : List ByteArray} {j : Nat} {s q kk vv : ByteArray} {e1 e2 : Bool} (hl : 4 * (j + 1) ≤ R.length)
    (hrd : rdT (R.take (4 * (j + 1))) = ((rdT (R.take (4 * j))).1 ++ [⟨((wholeN s).getD 0 : Nat), ((wholeN q).getD 0 : Nat), kk, vv⟩], (rdT (R.take (4 * j))).2 && ((wholeN s).isSome && (wholeN q).isSome)))
    (hs : (wholeN s).isSome = e1) (hq : (wholeN q).isSome = e2) (he : (e1 && e2) = false) : (rdT R).2 = false :=
  rd_false hl (by rw [hrd]; simp only [hs, hq, he, Bool.and_false])

/-- make([]T, 0, n) of elements of several cells -/
theorem wpList_make_roomS {P : Program} (w : World) {ops : Array Oper} {rest : List Oper} {o : Oper} {a : Act} {Q : Exit → Act → World → Prop}
    (hg : o.guard = none) (l c : Operand) (t : TypeId) (hop : o.op = Op.makeSlice t l c)
    (B : Nat) (e : TypeId) (z : Value) (sz bytes : Nat) (h1 : P.underlying t = some (.slice e)) (hinfo : (P.info? e).map (fun i => (i.zero, i.size, i.bytes)) = some (some z, sz, bytes)) (hby : bytes ≤ 256)
    (n : Nat) (hl : a.eval l = .int .i64 0) (hc : a.eval c = .int .i64 (n : Int)) (hn : n ≤ 1048576) (hB : B ≤ w.heap.size)
    (hK : ∀ v w', w'.ownsRow B e sz v 0 [] → Below B w w' → wpList P ops Q rest (a.put o.dst v) w') :
    wpList P ops Q (o :: rest) a w := by
  obtain ⟨i, hi, hz, hsize, hbytes⟩ := info_parts hinfo
  refine wpList_make_own (P := P) w hg l c t hop B e i z sz h1 hi hz hsize .i64 .i64 n n hl hc rfl ?_ (by unfold maxLen; omega) hB ?_
  · rw [hbytes]
    have := Nat.mul_le_mul hby hn
    omega
  · intro w' hown hgr
    exact hK _ w' hown (belowS_own (v := .slice none 0 0) (xs := []) (n := 0) (e := e) (s := sz) (Below.refl _ _) (World.ownsRow_nil _ _ _ _) hgr hB)

/-- a batch that is told, or none -/
def BParsed (w : World) (r : Option (Int × Int × List TxD)) (e : Ending) (w' : World) : Prop :=
  Below w.heap.size w w' ∧ match r with
  | some (a, N, L) => ∃ A c, e = .returned (.tuple #[.agg #[.int .i64 a, .int .i64 N, .slice A L.length c], .int .i64 0]) ∧ w'.ownsRow w.heap.size 97 4 (.slice A L.length c) L.length (txs L)
  | none => e = .returned (.tuple #[.agg #[.int .i64 0, .int .i64 0, .slice none 0 0], .int .i64 1])
theorem bparsed_none {w w' : World} {r : Option (Int × Int × List TxD)} {e : Ending} (h : r = none) (hb : Below w.heap.size w w') (he : e = .returned (.tuple #[.agg #[.int .i64 0, .int .i64 0, .slice none 0 0], .int .i64 1])) : BParsed w r e w' := by
  subst h; exact ⟨hb, he⟩
theorem bparsed_some {w w' : World} {r : Option (Int × Int × List TxD)} {e : Ending} {a N : Int} {L : List TxD} {A : Option Addr} {c n : Nat} (h : r = some (a, N, L)) (hn : L.length = n) (hb : Below w.heap.size w w') (he : e = .returned (.tuple #[.agg #[.int .i64 a, .int .i64 N, .slice A n c], .int .i64 0]))
    (ho : w'.ownsRow w.heap.size 97 4 (.slice A n c) n (txs L)) : BParsed w r e w' := by
  subst h hn; exact ⟨hb, A, c, he, ho⟩

/-- what holds at the label -/
inductive WrongP (p : Prop) (w w1 : World) : Act → World → Prop
  | mk (u0 u1 u3 u4 u5 u6 u7 u8 u9 u10 u11 u12 u13 u14 u15 u16 u17 u18 u19 u20 u21 u22 u23 u24 u25 u26 u27 u28 u29 u30 u31 u32 u33 u34 u35 u36 u37 u38 u39 u40 u41 u42 u43 u44 u45 u46 u47 u48 u49 u50 u51 u52 u53 u54 u55 u56 u57 u58 u59 u60 u61 u62 u63 u64 u65 u66 u67 u68 u69 u70 u71 u72 u73 u74 u75 u76 u77 u78 u79 u80 u81 u82 u83 u84 u85 u86 u87 u88 u89 u90 u91 u92 u93 u94 u95 u96 u97 u98 u99 u100 u101 : Value) (w' : World) (hp : p) (hb : Below w1.heap.size w1 w') : WrongP p w w1 { tmps := #[u0, u1, .pointer (some ⟨w.heap.size, 0, none⟩), u3, u4, u5, u6, u7, u8, u9, u10, u11, u12, u13, u14, u15, u16, u17, u18, u19, u20, u21, u22, u23, u24, u25, u26, u27, u28, u29, u30, u31, u32, u33, u34, u35, u36, u37, u38, u39, u40, u41, u42, u43, u44, u45, u46, u47, u48, u49, u50, u51, u52, u53, u54, u55, u56, u57, u58, u59, u60, u61, u62, u63, u64, u65, u66, u67, u68, u69, u70, u71, u72, u73, u74, u75, u76, u77, u78, u79, u80, u81, u82, u83, u84, u85, u86, u87, u88, u89, u90, u91, u92, u93, u94, u95, u96, u97, u98, u99, u100, u101], defers := [] } w'
theorem wrongP_elim {p : Prop} {w w1 : World} {G : Act → World → Prop} (h : ∀ (u0 u1 u3 u4 u5 u6 u7 u8 u9 u10 u11 u12 u13 u14 u15 u16 u17 u18 u19 u20 u21 u22 u23 u24 u25 u26 u27 u28 u29 u30 u31 u32 u33 u34 u35 u36 u37 u38 u39 u40 u41 u42 u43 u44 u45 u46 u47 u48 u49 u50 u51 u52 u53 u54 u55 u56 u57 u58 u59 u60 u61 u62 u63 u64 u65 u66 u67 u68 u69 u70 u71 u72 u73 u74 u75 u76 u77 u78 u79 u80 u81 u82 u83 u84 u85 u86 u87 u88 u89 u90 u91 u92 u93 u94 u95 u96 u97 u98 u99 u100 u101 : Value) (w' : World), p → Below w1.heap.size w1 w' → G { tmps := #[u0, u1, .pointer (some ⟨w.heap.size, 0, none⟩), u3, u4, u5, u6, u7, u8, u9, u10, u11, u12, u13, u14, u15, u16, u17, u18, u19, u20, u21, u22, u23, u24, u25, u26, u27, u28, u29, u30, u31, u32, u33, u34, u35, u36, u37, u38, u39, u40, u41, u42, u43, u44, u45, u46, u47, u48, u49, u50, u51, u52, u53, u54, u55, u56, u57, u58, u59, u60, u61, u62, u63, u64, u65, u66, u67, u68, u69, u70, u71, u72, u73, u74, u75, u76, u77, u78, u79, u80, u81, u82, u83, u84, u85, u86, u87, u88, u89, u90, u91, u92, u93, u94, u95, u96, u97, u98, u99, u100, u101], defers := [] } w') : ∀ a' w', WrongP p w w1 a' w' → G a' w' := by
  intro a' w' k
  cases k with
  | mk u0 u1 u3 u4 u5 u6 u7 u8 u9 u10 u11 u12 u13 u14 u15 u16 u17 u18 u19 u20 u21 u22 u23 u24 u25 u26 u27 u28 u29 u30 u31 u32 u33 u34 u35 u36 u37 u38 u39 u40 u41 u42 u43 u44 u45 u46 u47 u48 u49 u50 u51 u52 u53 u54 u55 u56 u57 u58 u59 u60 u61 u62 u63 u64 u65 u66 u67 u68 u69 u70 u71 u72 u73 u74 u75 u76 u77 u78 u79 u80 u81 u82 u83 u84 u85 u86 u87 u88 u89 u90 u91 u92 u93 u94 u95 u96 u97 u98 u99 u100 u101 _ hp hb => exact h u0 u1 u3 u4 u5 u6 u7 u8 u9 u10 u11 u12 u13 u14 u15 u16 u17 u18 u19 u20 u21 u22 u23 u24 u25 u26 u27 u28 u29 u30 u31 u32 u33 u34 u35 u36 u37 u38 u39 u40 u41 u42 u43 u44 u45 u46 u47 u48 u49 u50 u51 u52 u53 u54 u55 u56 u57 u58 u59 u60 u61 u62 u63 u64 u65 u66 u67 u68 u69 u70 u71 u72 u73 u74 u75 u76 u77 u78 u79 u80 u81 u82 u83 u84 u85 u86 u87 u88 u89 u90 u91 u92 u93 u94 u95 u96 u97 u98 u99 u100 u101 _ hp hb

set_option maxRecDepth 100000 in
set_option maxHeartbeats 100000000 in
theorem bparse_any (A : Option Addr) (c n : Nat) (zs : List Int) (w : World) (hz : zs.length = n) (hr : Rd w A (u8s zs)) (hy : Byts zs) (hc : n ≤ c) (hcm : c ≤ maxLen) (hn : n ≤ 1048576) :
    Calls Try.prog 67 #[.slice A n c] w (BParsed w (parseB zs)) := by
  have HZ := Lib.hid hz
  clear hz
  obtain ⟨w1, hw1⟩ : ∃ w1, w1 = w.alloc (.cells #[.int .i64 0, .int .i64 0, .slice none 0 0] 25) := ⟨_, rfl⟩
  have hb1 : Below w.heap.size w w1 := by rw [hw1]; exact (Below.refl _ _).alloc (Nat.le_refl _) _
  have hs1 : w1.heap.size = w.heap.size + 1 := by rw [hw1]; simp
  have hcz : (∀ wX, Below w1.heap.size w1 wX → (wX.cell? ⟨w.heap.size, 0, none⟩ = some (.int .i64 0) ∧ wX.cell? ⟨w.heap.size, 1, none⟩ = some (.int .i64 0) ∧ wX.cell? ⟨w.heap.size, 2, none⟩ = some (.slice none 0 0)) ∧
      wX.frozen? ⟨w.heap.size, 0, none⟩ = false ∧ wX.frozen? ⟨w.heap.size, 1, none⟩ = false ∧ wX.frozen? ⟨w.heap.size, 2, none⟩ = false) := fun wX h => by
    refine ⟨⟨(h.cell (p := ⟨w.heap.size, 0, none⟩) (by show w.heap.size < _; omega)).trans ?_, (h.cell (p := ⟨w.heap.size, 1, none⟩) (by show w.heap.size < _; omega)).trans ?_, (h.cell (p := ⟨w.heap.size, 2, none⟩) (by show w.heap.size < _; omega)).trans ?_⟩, (h.frozen (p := ⟨w.heap.size, 0, none⟩) (by show w.heap.size < _; omega)).trans ?_, (h.frozen (p := ⟨w.heap.size, 1, none⟩) (by show w.heap.size < _; omega)).trans ?_, (h.frozen (p := ⟨w.heap.size, 2, none⟩) (by show w.heap.size < _; omega)).trans ?_⟩
    all_goals rw [hw1]
    all_goals first | (rw [World.cell?_alloc_at _ _ _ _ rfl]; rfl) | (rw [World.frozen?, heap_alloc_new]; simp)
  have HCZ := Lib.hid hcz
  have HW1 := Lib.hid hw1
  clear hcz hw1
  obtain ⟨w2, hw2⟩ : ∃ w2, w2 = w1.alloc (.cells #[.int .i64 0, .int .i64 0, .slice none 0 0] 25) := ⟨_, rfl⟩
  have hb2 : Below w1.heap.size w1 w2 := by rw [hw2]; exact (Below.refl _ _).alloc (Nat.le_refl _) _
  have hs2 : w2.heap.size = w1.heap.size + 1 := by rw [hw2]; simp
  obtain ⟨g, hg⟩ : ∃ g, g = w1.heap.size := ⟨_, rfl⟩
  have hpc : (w2.cell? ⟨g, 0, none⟩ = some (.int .i64 0) ∧ w2.cell? ⟨g, 1, none⟩ = some (.int .i64 0) ∧ w2.cell? ⟨g, 2, none⟩ = some (.slice none 0 0)) ∧
      w2.frozen? ⟨g, 0, none⟩ = false ∧ w2.frozen? ⟨g, 1, none⟩ = false ∧ w2.frozen? ⟨g, 2, none⟩ = false := by
    rw [hw2, hg]
    refine ⟨⟨?_, ?_, ?_⟩, ?_, ?_, ?_⟩
    all_goals first | (rw [World.cell?_alloc_at _ _ _ _ rfl]; rfl) | (rw [World.frozen?, heap_alloc_new]; simp)
  have hr2 : Rd w2 A (u8s zs) := (hr.below hb1).below hb2
  have HW2 := Lib.hid hw2
  have HG := Lib.hid hg
  have HPC := Lib.hid hpc
  have HS1 := Lib.hid hs1
  have HS2 := Lib.hid hs2
  clear hw2 hpc hs1 hs2 hg
  go_enter Try.func67, Try.ntmps67
  go_wp2_with fail
  rw [← HW1.out]
  refine wp_scope_jumps 0 (WrongP (parseB zs = none) w w1) (fun _ _ => 0) rfl ?_ ?_
  · go_wp2_with fail
    rw [← HW2.out, ← HG.out]
    refine (getPuts_any A c n zs _ HZ.out hr2 hy hc hcm hn).mono ?_
    rintro e w3 hgot
    cases hgp : getPuts zs with
    | none =>
      have HN : Hid (parseB zs = none) := by show parseB zs = none; unfold parseB; rw [hgp]; rfl
      rw [hgp] at hgot
      obtain ⟨rfl, hb3⟩ := hgot
      clear hgp
      have hbj : Below w1.heap.size w1 w3 := hb2.trans (hb3.mono hb2.size)
      go_wp2_with fail
      go_step3
      show 0 = 0 ∧ WrongP (parseB zs = none) w w1 _ _
      exact ⟨rfl, .mk _ _ _ _ _ _ _ _ _ _ _ _ _ _ _ _ _ _ _ _ _ _ _ _ _ _ _ _ _ _ _ _ _ _ _ _ _ _ _ _ _ _ _ _ _ _ _ _ _ _ _ _ _ _ _ _ _ _ _ _ _ _ _ _ _ _ _ _ _ _ _ _ _ _ _ _ _ _ _ _ _ _ _ _ _ _ _ _ _ _ _ _ _ _ _ _ _ _ _ _ _ _ HN.out hbj⟩
    | some l =>
      obtain ⟨T, hT⟩ : ∃ T, l.map strOfNums = T := ⟨_, rfl⟩
      obtain ⟨nT, hnT⟩ : ∃ nT, T.length = nT := ⟨_, rfl⟩
      have hpar : parseB zs = textsB T := by unfold parseB; rw [hgp, Option.bind_some, hT]
      have hsml : ∀ s ∈ T, s.size ≤ 1048576 := by
        intro s hs
        rw [← hT] at hs
        obtain ⟨x, hx, rfl⟩ := List.mem_map.1 hs
        have h1 := text_in hy hgp x hx
        have h2 := congrArg List.length (byt_of (getPuts_byts hy hgp x hx))
        rw [byt_length] at h2
        rw [h2]
        have := HZ.out
        omega
      have hcnt : nT ≤ 1048576 := by
        have h1 := text_count hy hgp
        have h2 := HZ.out
        rw [← hnT, ← hT, List.length_map]
        omega
      have HTO : Hid (textsOf (getPuts zs) = some (strs T)) := by show textsOf (getPuts zs) = some (strs T); rw [hgp]; simp only [textsOf, Option.map_some, hT]
      have HPAR := Lib.hid hpar
      have HSML := Lib.hid hsml
      have HNT := Lib.hid hnT
      rw [HTO.out] at hgot
      clear hgp hT hnT hpar hsml
      obtain ⟨v3, rfl, ho3, hb3⟩ := hgot
      have ho3b := own_cast ho3 ((strs_length T).trans HNT.out)
      obtain ⟨A3, c3, rfl, hc3, hm3, hr3, hlo3, hl3⟩ := own_val ho3b
      unfold maxLen at hm3
      clear hl3 ho3 ho3b
      have hbj : Below w1.heap.size w1 w3 := hb2.trans (hb3.mono hb2.size)
      cases hsh : shapeB T with
      | false =>
        have HN := Lib.hid (HPAR.out.trans (shape_no hsh))
        have HSH := Lib.hid hsh
        clear hsh
        go_wp2_with fail
        refine (isShape_is false A3 c3 nT T _ HSH.out HNT.out hr3 hcnt).mono ?_
        rintro e w' ⟨rfl, rfl⟩
        go_wp2_with fail
        go_step3
        show 0 = 0 ∧ WrongP (parseB zs = none) w w1 _ _
        exact ⟨rfl, .mk _ _ _ _ _ _ _ _ _ _ _ _ _ _ _ _ _ _ _ _ _ _ _ _ _ _ _ _ _ _ _ _ _ _ _ _ _ _ _ _ _ _ _ _ _ _ _ _ _ _ _ _ _ _ _ _ _ _ _ _ _ _ _ _ _ _ _ _ _ _ _ _ _ _ _ _ _ _ _ _ _ _ _ _ _ _ _ _ _ _ _ _ _ _ _ _ _ _ _ _ _ _ HN.out hbj⟩
      | true =>
        obtain ⟨t0, t1, t2, R, j0, rfl, hw0, hRl, hj1, hj8⟩ := shape_yes hsh
        have HSH := Lib.hid hsh
        have HW0 := Lib.hid hw0
        have HRL := Lib.hid hRl
        have hnj : nT = 3 + 4 * j0 := by have := HNT.out; simp only [List.length_cons] at this; omega
        have HNJ := Lib.hid hnj
        obtain ⟨b, off, rfl, hbl, _⟩ := hr3.open_ (by simp [strs])
        have hgb : g < b := by have h1 := hlo3 _ rfl; have h2 := HS2.out; have h3 := HG.out; simp only at h1; omega
        have hbg : b ≠ g := by omega
        have hgw1 : w1.heap.size ≤ g := by rw [HG.out]; exact Nat.le_refl _
        have HGW := Lib.hid hgw1
        have q1 : w3.cell? ⟨b, off + 1, none⟩ = some (.string t1) := rd_str hr3 rfl
        have hn1 : 1 < nT := by omega
        have hn1' : (1 : Int) < (nT : Int) := by omega
        have hn2 : 2 < nT := by omega
        have hn2' : (2 : Int) < (nT : Int) := by omega
        have HZ3 := Lib.hid (HSML.out t1 (by simp))
        have HZ4 := Lib.hid (HSML.out t2 (by simp))
        have hg2 : g < w2.heap.size := by have h2 := HS2.out; have h3 := HG.out; omega
        have hg3 : g < w3.heap.size := by have := hb3.size; omega
        clear hsh hw0 hRl hnj hlo3 hgw1
        go_wp2_with fail
        refine (isShape_is true _ c3 nT _ _ HSH.out HNT.out hr3 hcnt).mono ?_
        rintro e w' ⟨rfl, rfl⟩
        go_wp2_with fail
        refine (bgetNum_any t1 _ HZ3.out).mono ?_
        rintro e w4 ⟨x1, b1, rfl, hb4, hs1, hv1⟩
        have HB1 := Lib.hid hs1
        have HV1 := Lib.hid hv1
        have h24 := hb3.trans (hb4.mono hb3.size)
        obtain ⟨⟨z0, z1, z2⟩, zf0, zf1, zf2⟩ := HPC.out
        have p0 := (h24.cell (p := ⟨g, 0, none⟩) hg2).trans z0
        have p1 := (h24.cell (p := ⟨g, 1, none⟩) hg2).trans z1
        have p2 := (h24.cell (p := ⟨g, 2, none⟩) hg2).trans z2
        have pf0 := (h24.frozen (p := ⟨g, 0, none⟩) hg2).trans zf0
        have pf1 := (h24.frozen (p := ⟨g, 1, none⟩) hg2).trans zf1
        have pf2 := (h24.frozen (p := ⟨g, 2, none⟩) hg2).trans zf2
        obtain ⟨w5, hw5⟩ : ∃ w5, w5 = w4.setCell ⟨g, 0, none⟩ (.int .i64 x1) := ⟨_, rfl⟩
        have hr5 : Rd (w4.setCell ⟨g, 0, none⟩ (.int .i64 x1)) (some ⟨b, off, none⟩) (strs (t0 :: t1 :: t2 :: R)) := (hr3.below hb4).set_ hbg
        have q2 : (w4.setCell ⟨g, 0, none⟩ (.int .i64 x1)).cell? ⟨b, off + 2, none⟩ = some (.string t2) := rd_str hr5 rfl
        have hbj4 : Below w1.heap.size w1 w4 := hbj.trans (hb4.mono hbj.size)
        have P5 : Hid (((w5.cell? ⟨g, 0, none⟩ = some (.int .i64 x1) ∧ w5.cell? ⟨g, 1, none⟩ = some (.int .i64 0) ∧ w5.cell? ⟨g, 2, none⟩ = some (.slice none 0 0)) ∧ w5.frozen? ⟨g, 1, none⟩ = false ∧ w5.frozen? ⟨g, 2, none⟩ = false) ∧ (Below w1.heap.size w1 w5 ∧ g < w5.heap.size ∧ b < w5.heap.size) ∧ Rd w5 (some ⟨b, off, none⟩) (strs (t0 :: t1 :: t2 :: R))) := by
          show _ ∧ _
          rw [hw5]
          refine ⟨⟨⟨World.cell?_setCell_same _ _ _ p0, (World.cell?_setCell_other _ _ _ _ (by simp)).trans p1, (World.cell?_setCell_other _ _ _ _ (by simp)).trans p2⟩, by rw [World.frozen?_setCell]; exact pf1, by rw [World.frozen?_setCell]; exact pf2⟩, ⟨hbj4.setCell HGW.out _, ?_, ?_⟩, hr5⟩
          · have := hb4.size; simp; omega
          · have := hb4.size; simp; omega
        clear hs1 hv1 q1 z0 z1 z2 zf0 zf1 zf2 pf1 pf2 hr5 p1 p2 hr3 h24
        go_wp2_with fail
        rw [← hw5]
        refine (bgetNum_any t2 _ HZ4.out).mono ?_
        rintro e w6 ⟨x2, b2, rfl, hb6, hs2, hv2⟩
        have HB2 := Lib.hid hs2
        have HV2 := Lib.hid hv2
        obtain ⟨⟨⟨z0, z1, z2⟩, zf1, zf2⟩, ⟨hbj5, hg5, hb5⟩, hr5⟩ := P5.out
        have p0 := (hb6.cell (p := ⟨g, 0, none⟩) hg5).trans z0
        have p1 := (hb6.cell (p := ⟨g, 1, none⟩) hg5).trans z1
        have p2 := (hb6.cell (p := ⟨g, 2, none⟩) hg5).trans z2
        have pf1 := (hb6.frozen (p := ⟨g, 1, none⟩) hg5).trans zf1
        have pf2 := (hb6.frozen (p := ⟨g, 2, none⟩) hg5).trans zf2
        have hr6 := hr5.below hb6
        have hbj6 : Below w1.heap.size w1 w6 := hbj5.trans (hb6.mono hbj5.size)
        have hbj7 : Below w1.heap.size w1 (w6.setCell ⟨g, 1, none⟩ (.int .i64 x2)) := hbj6.setCell HGW.out _
        clear hs2 hv2 q2 z0 z1 z2 zf1 zf2 hw5 pf0
        have hg6 : g < w6.heap.size := by have := hb6.size; omega
        have hb6' : b < w6.heap.size := by have := hb6.size; omega
        obtain ⟨w7, hw7⟩ : ∃ w7, w7 = w6.setCell ⟨g, 1, none⟩ (.int .i64 x2) := ⟨_, rfl⟩
        have P7 : Hid (((w7.cell? ⟨g, 0, none⟩ = some (.int .i64 x1) ∧ w7.cell? ⟨g, 1, none⟩ = some (.int .i64 x2) ∧ w7.cell? ⟨g, 2, none⟩ = some (.slice none 0 0)) ∧ w7.frozen? ⟨g, 2, none⟩ = false) ∧ (Below w1.heap.size w1 w7 ∧ g < w7.heap.size ∧ b < w7.heap.size) ∧ Rd w7 (some ⟨b, off, none⟩) (strs (t0 :: t1 :: t2 :: R))) := by
          show _ ∧ _
          rw [hw7]
          exact ⟨⟨⟨(World.cell?_setCell_other _ _ _ _ (by simp)).trans p0, World.cell?_setCell_same _ _ _ p1, (World.cell?_setCell_other _ _ _ _ (by simp)).trans p2⟩, by rw [World.frozen?_setCell]; exact pf2⟩, ⟨hbj7, by simpa using hg6, by simpa using hb6'⟩, hr6.set_ hbg⟩
        clear hr5 hb6 p2 pf2 hr6 p0 hbj5 hbj6 hb4 hbj hb3 hb2
        cases b1 with
        | false =>
          have HN := Lib.hid (HPAR.out.trans (parse_not HB1.out HB2.out rfl))
          go_wp2_with fail
          go_step3
          show 0 = 0 ∧ WrongP (parseB zs = none) w w1 _ _
          exact ⟨rfl, .mk _ _ _ _ _ _ _ _ _ _ _ _ _ _ _ _ _ _ _ _ _ _ _ _ _ _ _ _ _ _ _ _ _ _ _ _ _ _ _ _ _ _ _ _ _ _ _ _ _ _ _ _ _ _ _ _ _ _ _ _ _ _ _ _ _ _ _ _ _ _ _ _ _ _ _ _ _ _ _ _ _ _ _ _ _ _ _ _ _ _ _ _ _ _ _ _ _ _ _ _ _ _ HN.out hbj7⟩
        | true =>
          cases b2 with
          | false =>
            have HN := Lib.hid (HPAR.out.trans (parse_not HB1.out HB2.out rfl))
            go_wp2_with fail
            go_step3
            show 0 = 0 ∧ WrongP (parseB zs = none) w w1 _ _
            exact ⟨rfl, .mk _ _ _ _ _ _ _ _ _ _ _ _ _ _ _ _ _ _ _ _ _ _ _ _ _ _ _ _ _ _ _ _ _ _ _ _ _ _ _ _ _ _ _ _ _ _ _ _ _ _ _ _ _ _ _ _ _ _ _ _ _ _ _ _ _ _ _ _ _ _ _ _ _ _ _ _ _ _ _ _ _ _ _ _ _ _ _ _ _ _ _ _ _ _ _ _ _ _ _ _ _ _ HN.out hbj7⟩
          | true =>
            go_upto_region 8 with fail
            rw [← hw7]
            clear hbj7 p1 pf1 hw7
            obtain ⟨⟨⟨z0, z1, z2⟩, zf2⟩, ⟨hbj7, hg7, hb7⟩, hr7⟩ := P7.out
            go_wp2_with (at_make; refine wpList_make_roomS _ rfl _ _ 23 rfl w7.heap.size 97 _ 4 48 Try.underlying23 info_tx (by decide) 8 rfl rfl (by omega) (Nat.le_refl _) ?_)
            intro v8 w8 ho8 hb8
            have p0 := (hb8.cell (p := ⟨g, 0, none⟩) hg7).trans z0
            have p1 := (hb8.cell (p := ⟨g, 1, none⟩) hg7).trans z1
            have p2 := (hb8.cell (p := ⟨g, 2, none⟩) hg7).trans z2
            have pf := (hb8.frozen (p := ⟨g, 2, none⟩) hg7).trans zf2
            have hr8 := hr7.at_ hb7 hb8
            have hbj8 := hbj7.trans (hb8.mono hbj7.size)
            have hsz8 := hb8.size
            obtain ⟨B8, hB8⟩ : ∃ B8, B8 = w7.heap.size := ⟨_, rfl⟩
            rw [← hB8] at ho8 hg7 hb7 hsz8 hb8
            clear z0 z1 z2 zf2 hr7 hbj7 hb8 hB8 P7 P5 hg6 hb6' hg5 hb5 hbl hg2 hg3
            obtain ⟨A8, c8, rfl, hc8, hm8, _, _, _⟩ := ownS_slice ho8
            unfold maxLen at hm8
            have P8 : Hid (((w8.setCell ⟨g, 2, none⟩ (.slice A8 0 c8)).cell? ⟨g, 0, none⟩ = some (.int .i64 x1) ∧ (w8.setCell ⟨g, 2, none⟩ (.slice A8 0 c8)).cell? ⟨g, 1, none⟩ = some (.int .i64 x2) ∧ (w8.setCell ⟨g, 2, none⟩ (.slice A8 0 c8)).cell? ⟨g, 2, none⟩ = some (.slice A8 0 c8) ∧ (w8.setCell ⟨g, 2, none⟩ (.slice A8 0 c8)).frozen? ⟨g, 2, none⟩ = false) ∧ (w8.setCell ⟨g, 2, none⟩ (.slice A8 0 c8)).ownsRow B8 97 4 (.slice A8 0 c8) 0 [] ∧
                Rd (w8.setCell ⟨g, 2, none⟩ (.slice A8 0 c8)) (some ⟨b, off, none⟩) (strs (t0 :: t1 :: t2 :: R)) ∧ Below w1.heap.size w1 (w8.setCell ⟨g, 2, none⟩ (.slice A8 0 c8)) ∧ B8 ≤ (w8.setCell ⟨g, 2, none⟩ (.slice A8 0 c8)).heap.size) :=
              ⟨⟨(World.cell?_setCell_other _ _ _ _ (by simp)).trans p0, (World.cell?_setCell_other _ _ _ _ (by simp)).trans p1, World.cell?_setCell_same _ _ _ p2, by rw [World.frozen?_setCell]; exact pf⟩, ownsRow_setCell_below ho8 (by simpa using hg7) _, hr8.set_ hbg, hbj8.setCell HGW.out _, by simpa using hsz8⟩
            clear hc8 hr8 hbj8 hsz8 ho8
            go_wp2_with fail
            go_loopw [9] (fun i wz => ∃ (j k : Nat) (M : List TxD) (v : Value), i = .int .i64 k ∧ Hid (k = 3 + 4 * j) ∧ j ≤ j0 ∧ wz.cell? ⟨g, 0, none⟩ = some (.int .i64 x1) ∧ wz.cell? ⟨g, 1, none⟩ = some (.int .i64 x2) ∧ wz.cell? ⟨g, 2, none⟩ = some v ∧ wz.frozen? ⟨g, 2, none⟩ = false ∧
              wz.ownsRow B8 97 4 v j (txs M) ∧ Rd wz (some ⟨b, off, none⟩) (strs (t0 :: t1 :: t2 :: R)) ∧ Below w1.heap.size w1 wz ∧ B8 ≤ wz.heap.size ∧ Hid ((rdT (R.take (4 * j))).2 = true) ∧ Hid (M = (rdT (R.take (4 * j))).1)) (fun i _ => nT - (intOf i).toNat)
            case atStart =>
              obtain ⟨⟨z0, z1, z2, z3⟩, z4, z5, z6, z7⟩ := P8.out
              exact ⟨0, 3, [], _, rfl, rfl, by omega, z0, z1, z2, z3, z4, z5, z6, z7, by show (rdT (R.take (4 * 0))).2 = true; simp [rdT], by show [] = (rdT (R.take (4 * 0))).1; simp [rdT]⟩
            case round =>
              clear p0 p1 p2 pf P8
              obtain ⟨j, k, M, v, rfl, HK, hj, d0, d1, d2, df, hown, hrt, hbz, hBz, HO, HM⟩ := hrel
              have hnT : nT = 3 + 4 * j0 := HNJ.out
              by_cases hlt : j < j0
              · obtain ⟨s, q, kk, vv, r0, r1, r2, r3, hrd⟩ := take_four (R := R) (j := j) (by have := HRL.out; omega)
                have hk3 := HK.out
                have T0 : (t0 :: t1 :: t2 :: R)[k]? = some s := by rw [hk3, show 3 + 4 * j = 4 * j + 1 + 1 + 1 by omega]; exact r0
                have T1 : (t0 :: t1 :: t2 :: R)[k + 1]? = some q := by rw [hk3, show 3 + 4 * j + 1 = 4 * j + 1 + 1 + 1 + 1 by omega]; exact r1
                have T2 : (t0 :: t1 :: t2 :: R)[k + 2]? = some kk := by rw [hk3, show 3 + 4 * j + 2 = 4 * j + 2 + 1 + 1 + 1 by omega]; exact r2
                have T3 : (t0 :: t1 :: t2 :: R)[k + 3]? = some vv := by rw [hk3, show 3 + 4 * j + 3 = 4 * j + 3 + 1 + 1 + 1 by omega]; exact r3
                have Z1 := Lib.hid (HSML.out s (List.mem_of_getElem? T0))
                have Z2 := Lib.hid (HSML.out q (List.mem_of_getElem? T1))
                have HT1 := Lib.hid T1
                have HT2 := Lib.hid T2
                have HT3 := Lib.hid T3
                have HRD := Lib.hid hrd
                have i0 : (0 : Int) ≤ (k : Int) := by omega
                have ik0 : (k : Int) < (nT : Int) := by omega
                have ik1 : (k : Int) + 1 < (nT : Int) := by omega
                have ik2 : (k : Int) + 2 < (nT : Int) := by omega
                have ik3 : (k : Int) + 3 < (nT : Int) := by omega
                have in0 : k < nT := by omega
                have in1 : k + 1 < nT := by omega
                have in2 : k + 2 < nT := by omega
                have in3 : k + 3 < nT := by omega
                have hgl : g < wr.heap.size := World.block_lt_of_cell? wr _ d0
                have HLJ : Hid (4 * (j + 1) ≤ R.length) := by show 4 * (j + 1) ≤ R.length; have := HRL.out; omega
                have cc0 := rd_str hrt T0
                clear r0 r1 r2 r3 T0 T1 T2 T3 hrd hk3 hnT
                go_wp2_with fail
                refine (bgetNum_any s _ Z1.out).mono ?_
                rintro e w6 ⟨y1, e1, rfl, hb8, hs3, hv3⟩
                have hbz6 := hbz.trans (hb8.mono hbz.size)
                have HS3 := Lib.hid hs3
                have HV3 := Lib.hid hv3
                have hrt6 := hrt.below hb8
                have cc1 := rd_str hrt6 HT1.out
                clear cc0 hs3 hv3 hrt
                go_wp2_with fail
                refine (bgetNum_any q _ Z2.out).mono ?_
                rintro e w7 ⟨y2, e2, rfl, hb9, hs4, hv4⟩
                have hbz7 := hbz6.trans (hb9.mono hbz6.size)
                have h67 := hb8.trans (hb9.mono hb8.size)
                have HS4 := Lib.hid hs4
                have HV4 := Lib.hid hv4
                have hrt7 := hrt6.below hb9
                have p0 := (h67.cell (p := ⟨g, 0, none⟩) hgl).trans d0
                have p1 := (h67.cell (p := ⟨g, 1, none⟩) hgl).trans d1
                have p2 := (h67.cell (p := ⟨g, 2, none⟩) hgl).trans d2
                have pf := (h67.frozen (p := ⟨g, 2, none⟩) hgl).trans df
                have hown7 := ownS_below hown h67
                have hgl7 : g < w7.heap.size := by have := h67.size; omega
                have hB7 : B8 ≤ w7.heap.size := by have := h67.size; omega
                clear cc1 hs4 hv4 d0 d1 d2 df hown h67 hb9 hb8 hrt6 hbz hbz6
                cases e1 with
                | false =>
                  have HN := Lib.hid (HPAR.out.trans (parse_not HB1.out HB2.out (by rw [rd_stop HLJ.out HRD.out HS3.out HS4.out rfl]; rfl)))
                  go_wp2_with fail
                  go_step3
                  show 0 = 0 ∧ WrongP (parseB zs = none) w w1 _ _
                  exact ⟨rfl, .mk _ _ _ _ _ _ _ _ _ _ _ _ _ _ _ _ _ _ _ _ _ _ _ _ _ _ _ _ _ _ _ _ _ _ _ _ _ _ _ _ _ _ _ _ _ _ _ _ _ _ _ _ _ _ _ _ _ _ _ _ _ _ _ _ _ _ _ _ _ _ _ _ _ _ _ _ _ _ _ _ _ _ _ _ _ _ _ _ _ _ _ _ _ _ _ _ _ _ _ _ _ _ HN.out hbz7⟩
                | true =>
                  cases e2 with
                  | false =>
                    have HN := Lib.hid (HPAR.out.trans (parse_not HB1.out HB2.out (by rw [rd_stop HLJ.out HRD.out HS3.out HS4.out rfl]; rfl)))
                    go_wp2_with fail
                    go_step3
                    show 0 = 0 ∧ WrongP (parseB zs = none) w w1 _ _
                    exact ⟨rfl, .mk _ _ _ _ _ _ _ _ _ _ _ _ _ _ _ _ _ _ _ _ _ _ _ _ _ _ _ _ _ _ _ _ _ _ _ _ _ _ _ _ _ _ _ _ _ _ _ _ _ _ _ _ _ _ _ _ _ _ _ _ _ _ _ _ _ _ _ _ _ _ _ _ _ _ _ _ _ _ _ _ _ _ _ _ _ _ _ _ _ _ _ _ _ _ _ _ _ _ _ _ _ _ HN.out hbz7⟩
                  | true =>
                    have cc2 := rd_str hrt7 HT2.out
                    have cc3 := rd_str hrt7 HT3.out
                    have s1 : IntKind.i64.wrap ((k : Int) + 2) = (k : Int) + 2 := IntWalk.i64_in _ (by omega)
                    have s2 : IntKind.i64.wrap ((k : Int) + 3) = (k : Int) + 3 := IntWalk.i64_in _ (by omega)
                    have z2 : (0 : Int) ≤ (k : Int) + 2 := by omega
                    have z3 : (0 : Int) ≤ (k : Int) + 3 := by omega
                    have y2' : ((k : Int) + 2).toNat = k + 2 := by omega
                    have y3' : ((k : Int) + 3).toNat = k + 3 := by omega
                    go_wp2_with fail
                    go_region_law (refine step_app_elem _ (by rfl) _ _ _ (by rfl) B8 97 _ 4 48 Try.underlying23 info_tx rfl (by decide) (by decide) _ j _ (by rfl) (by first | exact (hown7.alloc _).drew | exact hown7.alloc _) w7.heap.size (TxD.cells ⟨y1, y2, kk, vv⟩) (by rfl) rfl (by first | exact cells_new_drew _ _ _ | exact cells_new _ _ _) (cells_one _) (by omega) (by simp; omega) ?_; intro v9 w9 ho9 hb10' hg10; obtain ⟨A9, c9, rfl, _, _, _, _, _⟩ := ownS_slice ho9; have hsz9 := hb10'.size; have hb10 := hb10'.mono (show g + 1 ≤ B8 by omega); have r0 := far_g hb10 (by first | exact ((Below.refl _ _).alloc (Nat.le_refl _) _).drew | exact (Below.refl _ _).alloc (Nat.le_refl _) _) hgl7 p0; have r1 := far_g hb10 (by first | exact ((Below.refl _ _).alloc (Nat.le_refl _) _).drew | exact (Below.refl _ _).alloc (Nat.le_refl _) _) hgl7 p1; have r2 := far_g hb10 (by first | exact ((Below.refl _ _).alloc (Nat.le_refl _) _).drew | exact (Below.refl _ _).alloc (Nat.le_refl _) _) hgl7 p2; have rf := far_f hb10 (by first | exact ((Below.refl _ _).alloc (Nat.le_refl _) _).drew | exact (Below.refl _ _).alloc (Nat.le_refl _) _) hgl7 pf; have rt := Rd.at_ (by first | exact Rd.drew (hrt7.alloc _) | exact hrt7.alloc _) hb7 hb10'; have hbz9 := far_b hb10 (by first | exact ((Below.refl _ _).alloc (Nat.le_refl _) _).drew | exact (Below.refl _ _).alloc (Nat.le_refl _) _) hbz7 hbz7.size (by have := HGW.out; omega))
                    all_goals
                      obtain ⟨ho', hm'⟩ := rd_up (ok0 := true) (ok := true) (okn := true) (by rw [HO.out]; rfl) (fun _ => HM.out) HS3.out HV3.out HS4.out HV4.out rfl HRD.out
                      have HO' : Hid ((rdT (R.take (4 * (j + 1)))).2 = true) := by show (rdT (R.take (4 * (j + 1)))).2 = true; simpa using ho'.symm
                      have HM' := Lib.hid (hm' rfl)
                      have ho10 := ownS_conv (n' := j + 1) ho9 (ys := txs (M ++ [⟨y1, y2, kk, vv⟩])) (by rw [txs_append, txs_single]) rfl
                      clear ho' hm' ho9 hown7
                      go_wp2_with fail
                      go_roundw
                      case rel => exact ⟨j + 1, k + 4, M ++ [⟨y1, y2, kk, vv⟩], _, by go_num, by show k + 4 = 3 + 4 * (j + 1); have := HK.out; omega, by omega, (World.cell?_setCell_other _ _ _ _ (by simp)).trans r0, (World.cell?_setCell_other _ _ _ _ (by simp)).trans r1, World.cell?_setCell_same _ _ _ r2, by rw [World.frozen?_setCell]; exact rf, ownsRow_setCell_below ho10 (by simpa using hg7) _, rt.set_ hbg, hbz9.setCell HGW.out _, by simp at hsz9 ⊢; omega, HO', HM'⟩
                      case measure => simp [intOf]; omega
              · have hje : j = j0 := by omega
                have hkn : ¬ (k < nT) := by have := HK.out; omega
                have ikn : ¬ ((k : Int) < (nT : Int)) := by omega
                have hR : R.take (4 * j) = R := List.take_of_length_le (by have := HRL.out; omega)
                have ho1 := HO.out
                have hM9 := HM.out
                rw [hR] at ho1 hM9
                have hML : M.length = j := by have := hown.1; rw [txs_length] at this; omega
                obtain ⟨A9, c9, hv9, hc9, hm9, hr9, _, _⟩ := ownS_slice hown
                have hbw : Below w.heap.size w wr := hb1.trans (hbz.mono hb1.size)
                have hgl : g < wr.heap.size := World.block_lt_of_cell? wr _ d0
                rw [hv9] at d2 hown
                have HML := Lib.hid hML
                clear hnT
                have hwg : w.heap.size < B8 := by have h1 := HS1.out; have h2 := HG.out; omega
                cases hbt : batB x1 x2 M with
                | false =>
                  have HN := Lib.hid (HPAR.out.trans (parse_bad HV1.out HV2.out (by rw [← hM9]; exact hbt)))
                  have HB := Lib.hid hbt
                  clear ho1 hR hML hje hM9 hbt
                  go_wp2_with fail
                  refine (bcheck_no x1 x2 A9 c9 j M _ HB.out HML.out hr9).mono ?_
                  rintro e w9 ⟨rfl, hb10⟩
                  obtain ⟨⟨k0, k1, k2⟩, f0, f1, f2⟩ := HCZ.out _ (hbz.trans (hb10.mono hbz.size))
                  have hbw9 := hbw.trans (hb10.mono hbw.size)
                  go_wp2_with fail
                  go_step3
                  go_wp2_with fail
                  simp only [Exit.jump]
                  refine bodyPost_ret (v := .tuple #[.agg #[.int .i64 0, .int .i64 0, .slice none 0 0], .int .i64 1]) (by simp [results, Try.results67, go_sem, k0, k1, k2]) rfl (bparsed_none HN.out ?_ rfl)
                  exact ((hbw9.setCell (by simp) _).setCell (by simp) _).setCell (by simp) _
                | true =>
                  have HN := Lib.hid (HPAR.out.trans (parse_good HW0.out (by have := HRL.out; omega) (by have := HRL.out; omega) HB1.out HB2.out HV1.out HV2.out (by rw [ho1]; rfl) (by rw [← hM9]; exact hbt)))
                  rw [← hM9] at HN
                  have HB := Lib.hid hbt
                  clear ho1 hR hML hje hM9 hbt
                  go_wp2_with fail
                  refine (bcheck_yes x1 x2 A9 c9 j M _ HB.out HML.out hr9).mono ?_
                  rintro e w9 ⟨rfl, hb10⟩
                  obtain ⟨⟨k0, k1, k2⟩, f0, f1, f2⟩ := HCZ.out _ (hbz.trans (hb10.mono hbz.size))
                  have hbw9 := hbw.trans (hb10.mono hbw.size)
                  have r0 := (hb10.cell (p := ⟨g, 0, none⟩) hgl).trans d0
                  have r1 := (hb10.cell (p := ⟨g, 1, none⟩) hgl).trans d1
                  have r2 := (hb10.cell (p := ⟨g, 2, none⟩) hgl).trans d2
                  have hown9 := ownS_below hown hb10
                  go_wp2_with fail
                  simp only [Exit.jump]
                  refine bodyPost_ret (v := .tuple #[.agg #[.int .i64 x1, .int .i64 x2, .slice A9 j c9], .int .i64 0]) (by simp [results, Try.results67, go_sem, k0, k1, k2]) rfl (bparsed_some HN.out HML.out ?_ rfl ?_)
                  · exact ((hbw9.setCell (by simp) _).setCell (by simp) _).setCell (by simp) _
                  · exact ownS_more (ownsRow_setCell_below (ownsRow_setCell_below (ownsRow_setCell_below hown9 (by simpa using hwg) _) (by simpa using hwg) _) (by simpa using hwg) _) (by omega)
  · refine wrongP_elim ?_
    intro u0 u1 u3 u4 u5 u6 u7 u8 u9 u10 u11 u12 u13 u14 u15 u16 u17 u18 u19 u20 u21 u22 u23 u24 u25 u26 u27 u28 u29 u30 u31 u32 u33 u34 u35 u36 u37 u38 u39 u40 u41 u42 u43 u44 u45 u46 u47 u48 u49 u50 u51 u52 u53 u54 u55 u56 u57 u58 u59 u60 u61 u62 u63 u64 u65 u66 u67 u68 u69 u70 u71 u72 u73 u74 u75 u76 u77 u78 u79 u80 u81 u82 u83 u84 u85 u86 u87 u88 u89 u90 u91 u92 u93 u94 u95 u96 u97 u98 u99 u100 u101 w' hnone hb
    have HN := Lib.hid hnone
    clear hnone
    obtain ⟨⟨k0, k1, k2⟩, f0, f1, f2⟩ := HCZ.out _ hb
    have hbw : Below w.heap.size w w' := hb1.trans (hb.mono hb1.size)
    go_wp2_with fail
    simp only [Exit.jump]
    refine bodyPost_ret (v := .tuple #[.agg #[.int .i64 0, .int .i64 0, .slice none 0 0], .int .i64 1]) (by simp [results, Try.results67, go_sem, k0, k1, k2]) rfl (bparsed_none HN.out ?_ rfl)
    exact ((hbw.setCell (by simp) _).setCell (by simp) _).setCell (by simp) _

end Go.Proofs.Ytafkcofocjellaa
