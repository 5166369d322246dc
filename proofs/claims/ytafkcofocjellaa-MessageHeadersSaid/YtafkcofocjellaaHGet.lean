/-
  Package header's Parse.
-/
import Derived.Test.YtafkcofocjellaaHPut
import Derived.ScopeJumps
namespace Go.Proofs.Ytafkcofocjellaa
open Go.RowKit

theorem Rd.atG {w w' : World} {b off B : Nat} {xs : List Value} (h : Rd w (some ⟨b, off, none⟩) xs) (hB : b < B) (hb : Below B w w') : Rd w' (some ⟨b, off, none⟩) xs := fun hx => by
  obtain ⟨b', off', e, hl, hc⟩ := h hx
  cases e
  exact ⟨b, off, rfl, Nat.lt_of_lt_of_le hl hb.size, fun i v hv => (hb.cell (p := ⟨b, off + i, none⟩) hB).trans (hc i v hv)⟩
theorem Rd.setG {w : World} {b off g i : Nat} {u : Value} {xs : List Value} (h : Rd w (some ⟨b, off, none⟩) xs) (hne : b ≠ g) : Rd (w.setCell ⟨g, i, none⟩ u) (some ⟨b, off, none⟩) xs := fun hx => by
  obtain ⟨b', off', e, hl, hc⟩ := h hx
  cases e
  exact ⟨b, off, rfl, by simpa using hl, fun i' v hv => (World.cell?_setCell_other _ _ _ _ (by simp)).trans (hc i' v hv)⟩
theorem rd_strH {w : World} {b off : Nat} {T : List ByteArray} (h : Rd w (some ⟨b, off, none⟩) (strs T)) {k : Nat} {s : ByteArray} (hk : T[k]? = some s) : w.cell? ⟨b, off + k, none⟩ = some (.string s) := by
  obtain ⟨b', off', e, _, hc⟩ := h (fun e => by
    have : T = [] := by cases T with | nil => rfl | cons x T => simp [strs] at e
    subst this; simp at hk)
  cases e
  exact hc k _ (by simp only [strs, List.getElem?_map, hk, Option.map_some])
theorem Two.set_ {w : World} {ga g i : Nat} {u0 u1 u : Value} (h : Two w ga u0 u1) (hne : ga ≠ g) : Two (w.setCell ⟨g, i, none⟩ u) ga u0 u1 :=
  ⟨(World.cell?_setCell_other _ _ _ _ (by simp)).trans h.1, (World.cell?_setCell_other _ _ _ _ (by simp)).trans h.2⟩

/-- the four cells of a header that is being made, and that they may be written -/
structure Hd (w : World) (g : Nat) (v0 v1 v2 v3 : Value) : Prop where
  c0 : w.cell? ⟨g, 0, none⟩ = some v0
  c1 : w.cell? ⟨g, 1, none⟩ = some v1
  c2 : w.cell? ⟨g, 2, none⟩ = some v2
  c3 : w.cell? ⟨g, 3, none⟩ = some v3
  f0 : w.frozen? ⟨g, 0, none⟩ = false
  f1 : w.frozen? ⟨g, 1, none⟩ = false
  f2 : w.frozen? ⟨g, 2, none⟩ = false
  f3 : w.frozen? ⟨g, 3, none⟩ = false
theorem hd_new (w : World) : Hd (w.alloc (.cells #[.int .i64 0, .int .i64 0, .slice none 0 0, .slice none 0 0] 28)) w.heap.size (.int .i64 0) (.int .i64 0) (.slice none 0 0) (.slice none 0 0) := by
  constructor
  all_goals first | (rw [World.cell?_alloc_at _ _ _ _ rfl]; rfl) | (rw [World.frozen?, heap_alloc_new]; simp)
theorem Hd.lt {w : World} {g : Nat} {v0 v1 v2 v3 : Value} (h : Hd w g v0 v1 v2 v3) : g < w.heap.size := World.block_lt_of_cell? w _ h.c0
theorem Hd.below {w w' : World} {g : Nat} {v0 v1 v2 v3 : Value} (h : Hd w g v0 v1 v2 v3) {B : Nat} (hb : Below B w w') (hg : g < B) : Hd w' g v0 v1 v2 v3 :=
  ⟨(hb.cell (p := ⟨g, 0, none⟩) hg).trans h.c0, (hb.cell (p := ⟨g, 1, none⟩) hg).trans h.c1, (hb.cell (p := ⟨g, 2, none⟩) hg).trans h.c2, (hb.cell (p := ⟨g, 3, none⟩) hg).trans h.c3,
    (hb.frozen (p := ⟨g, 0, none⟩) hg).trans h.f0, (hb.frozen (p := ⟨g, 1, none⟩) hg).trans h.f1, (hb.frozen (p := ⟨g, 2, none⟩) hg).trans h.f2, (hb.frozen (p := ⟨g, 3, none⟩) hg).trans h.f3⟩
theorem Hd.set0 {w : World} {g : Nat} {v0 v1 v2 v3 : Value} (h : Hd w g v0 v1 v2 v3) (u : Value) : Hd (w.setCell ⟨g, 0, none⟩ u) g u v1 v2 v3 :=
  ⟨World.cell?_setCell_same _ _ _ h.c0, (World.cell?_setCell_other _ _ _ _ (by simp)).trans h.c1, (World.cell?_setCell_other _ _ _ _ (by simp)).trans h.c2, (World.cell?_setCell_other _ _ _ _ (by simp)).trans h.c3, by rw [World.frozen?_setCell]; exact h.f0, by rw [World.frozen?_setCell]; exact h.f1, by rw [World.frozen?_setCell]; exact h.f2, by rw [World.frozen?_setCell]; exact h.f3⟩
theorem Hd.set1 {w : World} {g : Nat} {v0 v1 v2 v3 : Value} (h : Hd w g v0 v1 v2 v3) (u : Value) : Hd (w.setCell ⟨g, 1, none⟩ u) g v0 u v2 v3 :=
  ⟨(World.cell?_setCell_other _ _ _ _ (by simp)).trans h.c0, World.cell?_setCell_same _ _ _ h.c1, (World.cell?_setCell_other _ _ _ _ (by simp)).trans h.c2, (World.cell?_setCell_other _ _ _ _ (by simp)).trans h.c3, by rw [World.frozen?_setCell]; exact h.f0, by rw [World.frozen?_setCell]; exact h.f1, by rw [World.frozen?_setCell]; exact h.f2, by rw [World.frozen?_setCell]; exact h.f3⟩
theorem Hd.set2 {w : World} {g : Nat} {v0 v1 v2 v3 : Value} (h : Hd w g v0 v1 v2 v3) (u : Value) : Hd (w.setCell ⟨g, 2, none⟩ u) g v0 v1 u v3 :=
  ⟨(World.cell?_setCell_other _ _ _ _ (by simp)).trans h.c0, (World.cell?_setCell_other _ _ _ _ (by simp)).trans h.c1, World.cell?_setCell_same _ _ _ h.c2, (World.cell?_setCell_other _ _ _ _ (by simp)).trans h.c3, by rw [World.frozen?_setCell]; exact h.f0, by rw [World.frozen?_setCell]; exact h.f1, by rw [World.frozen?_setCell]; exact h.f2, by rw [World.frozen?_setCell]; exact h.f3⟩
theorem Hd.set3 {w : World} {g : Nat} {v0 v1 v2 v3 : Value} (h : Hd w g v0 v1 v2 v3) (u : Value) : Hd (w.setCell ⟨g, 3, none⟩ u) g v0 v1 v2 u :=
  ⟨(World.cell?_setCell_other _ _ _ _ (by simp)).trans h.c0, (World.cell?_setCell_other _ _ _ _ (by simp)).trans h.c1, (World.cell?_setCell_other _ _ _ _ (by simp)).trans h.c2, World.cell?_setCell_same _ _ _ h.c3, by rw [World.frozen?_setCell]; exact h.f0, by rw [World.frozen?_setCell]; exact h.f1, by rw [World.frozen?_setCell]; exact h.f2, by rw [World.frozen?_setCell]; exact h.f3⟩

/-- a header that is told, or none -/
def HParsed (w : World) (q : Option (Int × Int × List Int × List Int)) (e : Ending) (w' : World) : Prop :=
  Below w.heap.size w w' ∧ match q with
  | some (a, r, B, P) => ∃ AB cB AP cP, e = .returned (.tuple #[.agg #[.int .i64 a, .int .i64 r, .slice AB B.length cB, .slice AP P.length cP], .int .i64 0]) ∧
      w'.ownsRow w.heap.size 3 1 (.slice AB B.length cB) B.length (i64s B) ∧ w'.ownsRow w.heap.size 3 1 (.slice AP P.length cP) P.length (i64s P) ∧ (∀ k, (Value.slice AB B.length cB).ownBlock = some k → (Value.slice AP P.length cP).ownBlock ≠ some k)
  | none => e = .returned (.tuple #[.agg #[.int .i64 0, .int .i64 0, .slice none 0 0, .slice none 0 0], .int .i64 1])
theorem hparsed_none {w w' : World} {q : Option (Int × Int × List Int × List Int)} {e : Ending} (h : q = none) (hb : Below w.heap.size w w') (he : e = .returned (.tuple #[.agg #[.int .i64 0, .int .i64 0, .slice none 0 0, .slice none 0 0], .int .i64 1])) : HParsed w q e w' := by
  subst h; exact ⟨hb, he⟩
theorem hparsed_some {w w' : World} {q : Option (Int × Int × List Int × List Int)} {e : Ending} {a r : Int} {B P : List Int} {AB AP : Option Addr} {cB cP nB nP : Nat} (h : q = some (a, r, B, P)) (hB : B.length = nB) (hP : P.length = nP) (hb : Below w.heap.size w w')
    (he : e = .returned (.tuple #[.agg #[.int .i64 a, .int .i64 r, .slice AB nB cB, .slice AP nP cP], .int .i64 0])) (hoB : w'.ownsRow w.heap.size 3 1 (.slice AB nB cB) nB (i64s B)) (hoP : w'.ownsRow w.heap.size 3 1 (.slice AP nP cP) nP (i64s P))
    (hne : ∀ k, (Value.slice AB nB cB).ownBlock = some k → (Value.slice AP nP cP).ownBlock ≠ some k) : HParsed w q e w' := by
  subst h hB hP; exact ⟨hb, AB, cB, AP, cP, he, hoB, hoP, hne⟩

/-- what holds at the label -/
inductive WrongH (p : Prop) (w w1 : World) : Act → World → Prop
  | mk (u0 u1 u3 u4 u5 u6 u7 u8 u9 u10 u11 u12 u13 u14 u15 u16 u17 u18 u19 u20 u21 u22 u23 u24 u25 u26 u27 u28 u29 u30 u31 u32 u33 u34 u35 u36 u37 u38 u39 u40 u41 u42 u43 u44 u45 u46 u47 u48 u49 u50 u51 u52 u53 u54 u55 u56 u57 u58 u59 u60 u61 u62 u63 u64 u65 u66 u67 u68 u69 u70 u71 u72 u73 u74 u75 u76 u77 u78 u79 u80 u81 u82 u83 u84 u85 u86 u87 u88 u89 u90 u91 u92 u93 u94 u95 u96 : Value) (w' : World) (hp : p) (hb : Below w1.heap.size w1 w') : WrongH p w w1 { tmps := #[u0, u1, .pointer (some ⟨w.heap.size, 0, none⟩), u3, u4, u5, u6, u7, u8, u9, u10, u11, u12, u13, u14, u15, u16, u17, u18, u19, u20, u21, u22, u23, u24, u25, u26, u27, u28, u29, u30, u31, u32, u33, u34, u35, u36, u37, u38, u39, u40, u41, u42, u43, u44, u45, u46, u47, u48, u49, u50, u51, u52, u53, u54, u55, u56, u57, u58, u59, u60, u61, u62, u63, u64, u65, u66, u67, u68, u69, u70, u71, u72, u73, u74, u75, u76, u77, u78, u79, u80, u81, u82, u83, u84, u85, u86, u87, u88, u89, u90, u91, u92, u93, u94, u95, u96], defers := [] } w'
theorem wrongH_elim {p : Prop} {w w1 : World} {G : Act → World → Prop} (h : ∀ (u0 u1 u3 u4 u5 u6 u7 u8 u9 u10 u11 u12 u13 u14 u15 u16 u17 u18 u19 u20 u21 u22 u23 u24 u25 u26 u27 u28 u29 u30 u31 u32 u33 u34 u35 u36 u37 u38 u39 u40 u41 u42 u43 u44 u45 u46 u47 u48 u49 u50 u51 u52 u53 u54 u55 u56 u57 u58 u59 u60 u61 u62 u63 u64 u65 u66 u67 u68 u69 u70 u71 u72 u73 u74 u75 u76 u77 u78 u79 u80 u81 u82 u83 u84 u85 u86 u87 u88 u89 u90 u91 u92 u93 u94 u95 u96 : Value) (w' : World), p → Below w1.heap.size w1 w' → G { tmps := #[u0, u1, .pointer (some ⟨w.heap.size, 0, none⟩), u3, u4, u5, u6, u7, u8, u9, u10, u11, u12, u13, u14, u15, u16, u17, u18, u19, u20, u21, u22, u23, u24, u25, u26, u27, u28, u29, u30, u31, u32, u33, u34, u35, u36, u37, u38, u39, u40, u41, u42, u43, u44, u45, u46, u47, u48, u49, u50, u51, u52, u53, u54, u55, u56, u57, u58, u59, u60, u61, u62, u63, u64, u65, u66, u67, u68, u69, u70, u71, u72, u73, u74, u75, u76, u77, u78, u79, u80, u81, u82, u83, u84, u85, u86, u87, u88, u89, u90, u91, u92, u93, u94, u95, u96], defers := [] } w') : ∀ a' w', WrongH p w w1 a' w' → G a' w' := by
  intro a' w' k
  cases k with
  | mk u0 u1 u3 u4 u5 u6 u7 u8 u9 u10 u11 u12 u13 u14 u15 u16 u17 u18 u19 u20 u21 u22 u23 u24 u25 u26 u27 u28 u29 u30 u31 u32 u33 u34 u35 u36 u37 u38 u39 u40 u41 u42 u43 u44 u45 u46 u47 u48 u49 u50 u51 u52 u53 u54 u55 u56 u57 u58 u59 u60 u61 u62 u63 u64 u65 u66 u67 u68 u69 u70 u71 u72 u73 u74 u75 u76 u77 u78 u79 u80 u81 u82 u83 u84 u85 u86 u87 u88 u89 u90 u91 u92 u93 u94 u95 u96 _ hp hb => exact h u0 u1 u3 u4 u5 u6 u7 u8 u9 u10 u11 u12 u13 u14 u15 u16 u17 u18 u19 u20 u21 u22 u23 u24 u25 u26 u27 u28 u29 u30 u31 u32 u33 u34 u35 u36 u37 u38 u39 u40 u41 u42 u43 u44 u45 u46 u47 u48 u49 u50 u51 u52 u53 u54 u55 u56 u57 u58 u59 u60 u61 u62 u63 u64 u65 u66 u67 u68 u69 u70 u71 u72 u73 u74 u75 u76 u77 u78 u79 u80 u81 u82 u83 u84 u85 u86 u87 u88 u89 u90 u91 u92 u93 u94 u95 u96 _ hp hb

theorem nats_i64 (l : List Nat) : (nats l).length = l.length := nats_length l
theorem row_not {w w' : World} {e : TypeId} {B B' n n' : Nat} {v v' : Value} {xs xs' : List Value} (h : w.ownsRow B e 1 v n xs) (h' : w'.ownsRow B' e 1 v' n' xs') (hl : w.heap.size ≤ B') : ∀ k, v.ownBlock = some k → v'.ownBlock ≠ some k := fun k hk hk' => by
  have h1 := (h.lt k hk).2
  have h2 := (h'.lt k hk').1
  omega
/-- what a text says as a number -/
def NumOf (s : ByteArray) (x : Int) : Prop := (wholeN s).isSome = true ∧ ∀ m, wholeN s = some m → x = (m : Int)
theorem numOf_whole {s : ByteArray} {m : Nat} (h : wholeN s = some m) : NumOf s (m : Int) := ⟨by rw [h]; rfl, fun m' h' => by rw [h] at h'; cases h'; rfl⟩
theorem nums_none {s : ByteArray} (h : getNums (byt s) = none) : (numsO s).isSome = false := by unfold numsO; rw [h]; rfl
theorem nums_some {s : ByteArray} {L : List Nat} (h : getNums (byt s) = some L) : numsO s = some (nats L) := by unfold numsO; rw [h]; rfl
theorem nums_len {s : ByteArray} {L : List Nat} (h : getNums (byt s) = some L) : L.length ≤ s.size := by
  have h1 := getNums_get (byt_byts s) h
  have h2 := congrArg List.length h1
  rw [byt_length] at h2
  have := putNums_ge L
  omega

/-- where a list that is read lies, and that it may not be written any more by what writes below B -/
def RowAt (w : World) (g B : Nat) (v : Value) (L : List Nat) : Prop := g < B ∧ B ≤ w.heap.size ∧ w.ownsRow B 3 1 v L.length (i64s (nats L))
theorem RowAt.set_ {w : World} {g B i : Nat} {v u : Value} {L : List Nat} (h : RowAt w g B v L) : RowAt (w.setCell ⟨g, i, none⟩ u) g B v L := ⟨h.1, by simpa using h.2.1, ownsRow_setCell_below h.2.2 (by simpa using h.1) _⟩
theorem RowAt.below {w w' : World} {g B : Nat} {v : Value} {L : List Nat} (h : RowAt w g B v L) (hb : Below w.heap.size w w') : RowAt w' g B v L := ⟨h.1, by have := h.2.1; have := hb.size; omega, own_below h.2.2 hb⟩

/-- how far the numbers are read -/
def At1 (t1 t2 : ByteArray) (g : Nat) (w : World) (z : Int) : Prop :=
  (z = 0 ∧ Hd w g (.int .i64 0) (.int .i64 0) (.slice none 0 0) (.slice none 0 0)) ∨
  (z = 1 ∧ ∃ x, NumOf t1 x ∧ Hd w g (.int .i64 x) (.int .i64 0) (.slice none 0 0) (.slice none 0 0)) ∨
  (z = 2 ∧ ∃ x y, NumOf t1 x ∧ NumOf t2 y ∧ Hd w g (.int .i64 x) (.int .i64 y) (.slice none 0 0) (.slice none 0 0))
/-- how far the lists are read -/
def At2 (x y : Int) (t3 t4 : ByteArray) (g : Nat) (w : World) (z : Int) : Prop :=
  (z = 0 ∧ Hd w g (.int .i64 x) (.int .i64 y) (.slice none 0 0) (.slice none 0 0)) ∨
  (z = 1 ∧ ∃ vB LB B1, getNums (byt t3) = some LB ∧ RowAt w g B1 vB LB ∧ Hd w g (.int .i64 x) (.int .i64 y) vB (.slice none 0 0)) ∨
  (z = 2 ∧ ∃ vB LB B1 vP LP B2, getNums (byt t3) = some LB ∧ getNums (byt t4) = some LP ∧ RowAt w g B1 vB LB ∧ RowAt w g B2 vP LP ∧ (∀ k, vB.ownBlock = some k → vP.ownBlock ≠ some k) ∧ Hd w g (.int .i64 x) (.int .i64 y) vB vP)

set_option maxRecDepth 100000 in
set_option maxHeartbeats 100000000 in
theorem hparse_any (A : Option Addr) (c n : Nat) (zs : List Int) (w : World) (hz : zs.length = n) (hr : Rd w A (u8s zs)) (hy : Byts zs) (hc : n ≤ c) (hcm : c ≤ maxLen) (hn : n ≤ 1000000) :
    Calls Try.prog 68 #[.slice A n c] w (HParsed w (parseH zs)) := by
  have HZ := Lib.hid hz
  clear hz
  obtain ⟨w1, hw1⟩ : ∃ w1, w1 = w.alloc (.cells #[.int .i64 0, .int .i64 0, .slice none 0 0, .slice none 0 0] 28) := ⟨_, rfl⟩
  have hb1 : Below w.heap.size w w1 := by rw [hw1]; exact (Below.refl _ _).alloc (Nat.le_refl _) _
  have hs1 : w1.heap.size = w.heap.size + 1 := by rw [hw1]; simp
  have hcz : ∀ wX, Below w1.heap.size w1 wX → Hd wX w.heap.size (.int .i64 0) (.int .i64 0) (.slice none 0 0) (.slice none 0 0) := fun wX h => by
    have h0 : Hd w1 w.heap.size (.int .i64 0) (.int .i64 0) (.slice none 0 0) (.slice none 0 0) := by rw [hw1]; exact hd_new w
    exact h0.below h (by omega)
  have HCZ := Lib.hid hcz
  have HW1 := Lib.hid hw1
  clear hcz hw1
  obtain ⟨w2, hw2⟩ : ∃ w2, w2 = w1.alloc (.cells #[.int .i64 0, .int .i64 0, .slice none 0 0, .slice none 0 0] 28) := ⟨_, rfl⟩
  have hb2 : Below w1.heap.size w1 w2 := by rw [hw2]; exact (Below.refl _ _).alloc (Nat.le_refl _) _
  have hs2 : w2.heap.size = w1.heap.size + 1 := by rw [hw2]; simp
  obtain ⟨g, hg⟩ : ∃ g, g = w1.heap.size := ⟨_, rfl⟩
  have hpc : Hd w2 g (.int .i64 0) (.int .i64 0) (.slice none 0 0) (.slice none 0 0) := by rw [hw2, hg]; exact hd_new w1
  have hr2 : Rd w2 A (u8s zs) := (hr.below hb1).below hb2
  have HW2 := Lib.hid hw2
  have HG := Lib.hid hg
  have HPC := Lib.hid hpc
  have HS1 := Lib.hid hs1
  have HS2 := Lib.hid hs2
  clear hw2 hpc hs1 hs2 hg
  go_enter Try.func68, Try.ntmps68
  go_wp2_with fail
  rw [← HW1.out]
  refine wp_scope_jumps 0 (WrongH (parseH zs = none) w w1) (fun _ _ => 0) rfl ?_ ?_
  · go_wp2_with fail
    rw [← HW2.out, ← HG.out]
    refine (getPuts_any A c n zs _ HZ.out hr2 hy hc hcm (by omega)).mono ?_
    rintro e w3 hgot
    cases hgp : getPuts zs with
    | none =>
      have HN : Hid (parseH zs = none) := by show parseH zs = none; unfold parseH; rw [hgp]; rfl
      rw [hgp] at hgot
      obtain ⟨rfl, hb3⟩ := hgot
      clear hgp
      have hbj : Below w1.heap.size w1 w3 := hb2.trans (hb3.mono hb2.size)
      go_wp2_with fail
      go_step3
      show 0 = 0 ∧ WrongH (parseH zs = none) w w1 _ _
      exact ⟨rfl, .mk _ _ _ _ _ _ _ _ _ _ _ _ _ _ _ _ _ _ _ _ _ _ _ _ _ _ _ _ _ _ _ _ _ _ _ _ _ _ _ _ _ _ _ _ _ _ _ _ _ _ _ _ _ _ _ _ _ _ _ _ _ _ _ _ _ _ _ _ _ _ _ _ _ _ _ _ _ _ _ _ _ _ _ _ _ _ _ _ _ _ _ _ _ _ _ _ _ HN.out hbj⟩
    | some l =>
      obtain ⟨T, hT⟩ : ∃ T, l.map strOfNums = T := ⟨_, rfl⟩
      obtain ⟨nT, hnT⟩ : ∃ nT, T.length = nT := ⟨_, rfl⟩
      have hpar : parseH zs = textsH T := by unfold parseH; rw [hgp, Option.bind_some, hT]
      have hsml : ∀ s ∈ T, s.size ≤ 1000000 := by
        intro s hs
        rw [← hT] at hs
        obtain ⟨x, hx, rfl⟩ := List.mem_map.1 hs
        have h1 := text_inH hy hgp x hx
        have h2 := congrArg List.length (byt_of (getPuts_byts hy hgp x hx))
        rw [byt_length] at h2
        rw [h2]
        have := HZ.out
        omega
      have HTO : Hid (textsOf (getPuts zs) = some (strs T)) := by show textsOf (getPuts zs) = some (strs T); rw [hgp]; simp only [textsOf, Option.map_some, hT]
      have HPAR := Lib.hid hpar
      have HSML := Lib.hid hsml
      have HNT := Lib.hid hnT
      rw [HTO.out] at hgot
      clear hgp hT hnT hpar hsml
      obtain ⟨v3, rfl, ho3, hb3⟩ := hgot
      have ho3b := own_cast ho3 ((strs_length T).trans HNT.out)
      obtain ⟨A3, c3, rfl, hc3, hm3, hr3, hlo3, hl3⟩ := own_val ho3b
      unfold maxLen at hm3
      clear hl3 ho3 ho3b
      have hbj : Below w1.heap.size w1 w3 := hb2.trans (hb3.mono hb2.size)
      by_cases h5 : nT = 5
      · subst h5
        obtain ⟨t0, t1, t2, t3, t4, rfl⟩ : ∃ t0 t1 t2 t3 t4, T = [t0, t1, t2, t3, t4] := by
          match T, HNT.out with
          | [t0, t1, t2, t3, t4], _ => exact ⟨t0, t1, t2, t3, t4, rfl⟩
        obtain ⟨b, off, rfl, hbl, _⟩ := hr3.open_ (by simp [strs])
        have hgb : g < b := by have h1 := hlo3 _ rfl; have h2 := HS2.out; have h3 := HG.out; simp only at h1; omega
        have hbg : b ≠ g := by omega
        have hgw1 : w1.heap.size ≤ g := by rw [HG.out]; exact Nat.le_refl _
        have HGW := Lib.hid hgw1
        have hg2 : g < w2.heap.size := by have h2 := HS2.out; have h3 := HG.out; omega
        have hd3 := HPC.out.below hb3 hg2
        have hg3 := hd3.lt
        have q0 : w3.cell? ⟨b, off, none⟩ = some (.string t0) := rd_strH hr3 (k := 0) rfl
        clear hlo3 hgw1
        by_cases hw : t0 = headW
        · have ht0 : (t0.toList == [104, 101, 97, 100, 101, 114]) = true := by rw [hw, headW_toList]; rfl
          have ht0' : (t0.toList != [104, 101, 97, 100, 101, 114]) = false := by rw [hw, headW_toList]; rfl
          have HW0 := Lib.hid hw
          have hga : g < w3.heap.size := hg3
          have hba : b < w3.heap.size := hbl
          have Z1 := Lib.hid (HSML.out t1 (by simp))
          have Z2 := Lib.hid (HSML.out t2 (by simp))
          have Z3 := Lib.hid (HSML.out t3 (by simp))
          have Z4 := Lib.hid (HSML.out t4 (by simp))
          clear hw
          go_wp2_with fail
          clear ht0 ht0' q0
          go_loopw [39] (fun i wz => ∃ z : Int, i = .int .i64 z ∧ At1 t1 t2 g wz z ∧ Two wz w3.heap.size (.pointer (some ⟨g, 0, none⟩)) (.pointer (some ⟨g, 1, none⟩)) ∧ Rd wz (some ⟨b, off, none⟩) (strs [t0, t1, t2, t3, t4]) ∧ Below w1.heap.size w1 wz ∧ w3.heap.size < wz.heap.size) (fun i _ => 2 - (intOf i).toNat)
          case atStart => exact ⟨0, rfl, .inl ⟨rfl, hd3.below ((Below.refl _ _).alloc (Nat.le_refl _) _) hg3⟩, two_new _ _ _ _, hr3.alloc _, hbj.alloc hbj.size _, by simp⟩
          case round =>
            clear hbj hr3 hd3
            obtain ⟨z, rfl, hat, htw, hrt, hbz, hsz⟩ := hrel
            have hgz : g < wr.heap.size := by omega
            have hbz2 : b < wr.heap.size := by omega
            rcases hat with ⟨rfl, hd⟩ | ⟨rfl, x, hx, hd⟩ | ⟨rfl, x, y, hx, hy2, hd⟩
            · obtain ⟨wy, hwy⟩ : ∃ wy, wy = Lib.bytesWorld wr 5 t1 := ⟨_, rfl⟩
              have hby : Below wr.heap.size wr wy := by rw [hwy]; exact text_below wr 5 t1
              have hry := text_rd wr 5 t1
              rw [← byt_cells, ← hwy] at hry
              have hcv := Lib.run_convert_string_bytes (P := Try.prog) wr 9 33 5 t1 Try.underlying9 Try.underlying33 Try.underlying5
              have p0 := htw.1
              have q1 := rd_strH hrt (k := 1) (s := t1) rfl
              have hdy := hd.below hby hgz
              have hty := htw.below hby
              have hrt2 := hrt.atG hbz2 hby
              have hbz3 := hbz.trans (hby.mono hbz.size)
              have hsy := hby.size
              have HWY := Lib.hid hwy
              have HRY := Lib.hid hry
              clear htw hd hrt hwy hry hby
              cases hg : gn 0 0 (byt t1) with
              | none =>
                have WN := whole_none hg
                have HN : Hid (parseH zs = none) := HPAR.out.trans (textsH_not (b1 := false) (b2 := (wholeN t2).isSome) (by rw [WN]; rfl) rfl (by simp))
                have HGN := Lib.hid hg
                clear hg WN
                go_wp2_with fail
                rw [← HWY.out]
                refine (getNum_any _ _ t1.size (byt t1) _ (byt_length t1) HRY.out (byt_byts t1) (by have := Z1.out; omega)).mono ?_
                rintro e w' ⟨rfl, rfl⟩
                rw [HGN.out]
                unfold gnVal
                clear q1 p0 hcv
                go_wp2_with fail
                go_step3
                show 0 = 0 ∧ WrongH (parseH zs = none) w w1 _ _
                exact ⟨rfl, .mk _ _ _ _ _ _ _ _ _ _ _ _ _ _ _ _ _ _ _ _ _ _ _ _ _ _ _ _ _ _ _ _ _ _ _ _ _ _ _ _ _ _ _ _ _ _ _ _ _ _ _ _ _ _ _ _ _ _ _ _ _ _ _ _ _ _ _ _ _ _ _ _ _ _ _ _ _ _ _ _ _ _ _ _ _ _ _ _ _ _ _ _ _ _ _ _ _ HN.out hbz3⟩
              | some pp =>
                obtain ⟨m, k⟩ := pp
                by_cases hk : k = t1.size
                · have HW : Hid (NumOf t1 (m : Int)) := numOf_whole (whole_like hg hk)
                  have j1 : ((k : Int) != (t1.size : Int)) = false := by simp [hk]
                  have HGN := Lib.hid hg
                  clear hg hk
                  go_wp2_with fail
                  rw [← HWY.out]
                  refine (getNum_any _ _ t1.size (byt t1) _ (byt_length t1) HRY.out (byt_byts t1) (by have := Z1.out; omega)).mono ?_
                  rintro e w' ⟨rfl, rfl⟩
                  rw [HGN.out]
                  unfold gnVal
                  have k0 := hdy.c0
                  have l0 := hdy.f0
                  clear q1 p0 hcv
                  go_wp2_with fail
                  go_roundw
                  case rel =>
                    have hdn := hdy.set0 (.int .i64 (m : Int))
                    exact ⟨1, by go_num, .inr (.inl ⟨rfl, _, HW.out, hdn⟩), hty.set_ (by omega), hrt2.setG hbg, hbz3.setCell HGW.out _, by simp; omega⟩
                  case measure => simp [intOf]
                · have WN := whole_unlike hg hk
                  have j1 : ((k : Int) != (t1.size : Int)) = true := by simp; omega
                  have HN : Hid (parseH zs = none) := HPAR.out.trans (textsH_not (b1 := false) (b2 := (wholeN t2).isSome) (by rw [WN]; rfl) rfl (by simp))
                  have HGN := Lib.hid hg
                  clear hg hk WN
                  go_wp2_with fail
                  rw [← HWY.out]
                  refine (getNum_any _ _ t1.size (byt t1) _ (byt_length t1) HRY.out (byt_byts t1) (by have := Z1.out; omega)).mono ?_
                  rintro e w' ⟨rfl, rfl⟩
                  rw [HGN.out]
                  unfold gnVal
                  clear q1 p0 hcv
                  go_wp2_with fail
                  go_step3
                  show 0 = 0 ∧ WrongH (parseH zs = none) w w1 _ _
                  exact ⟨rfl, .mk _ _ _ _ _ _ _ _ _ _ _ _ _ _ _ _ _ _ _ _ _ _ _ _ _ _ _ _ _ _ _ _ _ _ _ _ _ _ _ _ _ _ _ _ _ _ _ _ _ _ _ _ _ _ _ _ _ _ _ _ _ _ _ _ _ _ _ _ _ _ _ _ _ _ _ _ _ _ _ _ _ _ _ _ _ _ _ _ _ _ _ _ _ _ _ _ _ HN.out hbz3⟩
            · obtain ⟨wy, hwy⟩ : ∃ wy, wy = Lib.bytesWorld wr 5 t2 := ⟨_, rfl⟩
              have HX := Lib.hid hx
              have hby : Below wr.heap.size wr wy := by rw [hwy]; exact text_below wr 5 t2
              have hry := text_rd wr 5 t2
              rw [← byt_cells, ← hwy] at hry
              have hcv := Lib.run_convert_string_bytes (P := Try.prog) wr 9 33 5 t2 Try.underlying9 Try.underlying33 Try.underlying5
              have p1 := htw.2
              have q1 := rd_strH hrt (k := 2) (s := t2) rfl
              have hdy := hd.below hby hgz
              have hty := htw.below hby
              have hrt2 := hrt.atG hbz2 hby
              have hbz3 := hbz.trans (hby.mono hbz.size)
              have hsy := hby.size
              have HWY := Lib.hid hwy
              have HRY := Lib.hid hry
              clear htw hx hd hrt hwy hry hby
              cases hg : gn 0 0 (byt t2) with
              | none =>
                have WN := whole_none hg
                have HN : Hid (parseH zs = none) := HPAR.out.trans (textsH_not (b1 := true) (b2 := false) HX.out.1 (by rw [WN]; rfl) (by simp))
                have HGN := Lib.hid hg
                clear hg WN
                go_wp2_with fail
                rw [← HWY.out]
                refine (getNum_any _ _ t2.size (byt t2) _ (byt_length t2) HRY.out (byt_byts t2) (by have := Z2.out; omega)).mono ?_
                rintro e w' ⟨rfl, rfl⟩
                rw [HGN.out]
                unfold gnVal
                clear q1 p1 hcv
                go_wp2_with fail
                go_step3
                show 0 = 0 ∧ WrongH (parseH zs = none) w w1 _ _
                exact ⟨rfl, .mk _ _ _ _ _ _ _ _ _ _ _ _ _ _ _ _ _ _ _ _ _ _ _ _ _ _ _ _ _ _ _ _ _ _ _ _ _ _ _ _ _ _ _ _ _ _ _ _ _ _ _ _ _ _ _ _ _ _ _ _ _ _ _ _ _ _ _ _ _ _ _ _ _ _ _ _ _ _ _ _ _ _ _ _ _ _ _ _ _ _ _ _ _ _ _ _ _ HN.out hbz3⟩
              | some pp =>
                obtain ⟨m, k⟩ := pp
                by_cases hk : k = t2.size
                · have HW : Hid (NumOf t2 (m : Int)) := numOf_whole (whole_like hg hk)
                  have j1 : ((k : Int) != (t2.size : Int)) = false := by simp [hk]
                  have HGN := Lib.hid hg
                  clear hg hk
                  go_wp2_with fail
                  rw [← HWY.out]
                  refine (getNum_any _ _ t2.size (byt t2) _ (byt_length t2) HRY.out (byt_byts t2) (by have := Z2.out; omega)).mono ?_
                  rintro e w' ⟨rfl, rfl⟩
                  rw [HGN.out]
                  unfold gnVal
                  have k1 := hdy.c1
                  have l1 := hdy.f1
                  clear q1 p1 hcv
                  go_wp2_with fail
                  go_roundw
                  case rel =>
                    have hdn := hdy.set1 (.int .i64 (m : Int))
                    exact ⟨2, by go_num, .inr (.inr ⟨rfl, _, _, HX.out, HW.out, hdn⟩), hty.set_ (by omega), hrt2.setG hbg, hbz3.setCell HGW.out _, by simp; omega⟩
                  case measure => simp [intOf]
                · have WN := whole_unlike hg hk
                  have j1 : ((k : Int) != (t2.size : Int)) = true := by simp; omega
                  have HN : Hid (parseH zs = none) := HPAR.out.trans (textsH_not (b1 := true) (b2 := false) HX.out.1 (by rw [WN]; rfl) (by simp))
                  have HGN := Lib.hid hg
                  clear hg hk WN
                  go_wp2_with fail
                  rw [← HWY.out]
                  refine (getNum_any _ _ t2.size (byt t2) _ (byt_length t2) HRY.out (byt_byts t2) (by have := Z2.out; omega)).mono ?_
                  rintro e w' ⟨rfl, rfl⟩
                  rw [HGN.out]
                  unfold gnVal
                  clear q1 p1 hcv
                  go_wp2_with fail
                  go_step3
                  show 0 = 0 ∧ WrongH (parseH zs = none) w w1 _ _
                  exact ⟨rfl, .mk _ _ _ _ _ _ _ _ _ _ _ _ _ _ _ _ _ _ _ _ _ _ _ _ _ _ _ _ _ _ _ _ _ _ _ _ _ _ _ _ _ _ _ _ _ _ _ _ _ _ _ _ _ _ _ _ _ _ _ _ _ _ _ _ _ _ _ _ _ _ _ _ _ _ _ _ _ _ _ _ _ _ _ _ _ _ _ _ _ _ _ _ _ _ _ _ _ HN.out hbz3⟩
            · have HX := Lib.hid hx
              have HY := Lib.hid hy2
              clear hx hy2 htw
              obtain ⟨wq, rfl⟩ : ∃ wq, wq = wr := ⟨_, rfl⟩
              go_wp2_with fail
              go_loopw [72] (fun i wz => ∃ z : Int, i = .int .i64 z ∧ At2 x y t3 t4 g wz z ∧ Two wz wq.heap.size (.pointer (some ⟨g, 2, none⟩)) (.pointer (some ⟨g, 3, none⟩)) ∧ Rd wz (some ⟨b, off, none⟩) (strs [t0, t1, t2, t3, t4]) ∧ Below w1.heap.size w1 wz ∧ wq.heap.size < wz.heap.size) (fun i _ => 2 - (intOf i).toNat)
              case atStart => exact ⟨0, rfl, .inl ⟨rfl, hd.below ((Below.refl _ _).alloc (Nat.le_refl _) _) hgz⟩, two_new _ _ _ _, hrt.alloc _, hbz.alloc hbz.size _, by simp⟩
              case round =>
                clear hrt hd hbz
                obtain ⟨z, rfl, hat, htw, hrt, hbz, hsz2⟩ := hrel
                have hgw : g < wq.heap.size := hgz
                have hgz : g < wr.heap.size := by omega
                have hbz2 : b < wr.heap.size := by omega
                rcases hat with ⟨rfl, hd⟩ | ⟨rfl, vB, LB, B1, hgl, hrw, hd⟩ | ⟨rfl, vB, LB, B1, vP, LP, B2, hg3, hg4, hrwB, hrwP, hne, hd⟩
                · obtain ⟨wy, hwy⟩ : ∃ wy, wy = Lib.bytesWorld wr 5 t3 := ⟨_, rfl⟩
                  have hby : Below wr.heap.size wr wy := by rw [hwy]; exact text_below wr 5 t3
                  have hry := text_rd wr 5 t3
                  rw [← byt_cells, ← hwy] at hry
                  have hcv := Lib.run_convert_string_bytes (P := Try.prog) wr 9 33 5 t3 Try.underlying9 Try.underlying33 Try.underlying5
                  have p0 := htw.1
                  have q1 := rd_strH hrt (k := 3) (s := t3) rfl
                  have hdy := hd.below hby hgz
                  have hty := htw.below hby
                  have hrt2 := hrt.atG hbz2 hby
                  have hbz3 := hbz.trans (hby.mono hbz.size)
                  have hsy := hby.size
                  have HWY := Lib.hid hwy
                  have HRY := Lib.hid hry
                  clear htw hd hrt hwy hry hby
                  have hz3 := Z3.out
                  cases hg : getNums (byt t3) with
                  | none =>
                    have HN : Hid (parseH zs = none) := HPAR.out.trans (textsH_not (b1 := true) (b2 := true) HX.out.1 HY.out.1 (by rw [nums_none hg]; rfl))
                    have HGN := Lib.hid hg
                    clear hg
                    go_wp2_with fail
                    rw [← HWY.out]
                    refine (getNums_any _ _ t3.size (byt t3) _ (byt_length t3) HRY.out (byt_byts t3) (grownCap_ge _ _ _ _) (grownCap_le_maxLen _ _ _ _ (by unfold maxLen; omega)) (by omega)).mono ?_
                    rintro e w5 hgot
                    rw [HGN.out] at hgot
                    obtain ⟨rfl, hb5⟩ := hgot
                    have hbz5 := hbz3.trans (hb5.mono hbz3.size)
                    clear q1 p0 hcv
                    go_wp2_with fail
                    go_step3
                    show 0 = 0 ∧ WrongH (parseH zs = none) w w1 _ _
                    exact ⟨rfl, .mk _ _ _ _ _ _ _ _ _ _ _ _ _ _ _ _ _ _ _ _ _ _ _ _ _ _ _ _ _ _ _ _ _ _ _ _ _ _ _ _ _ _ _ _ _ _ _ _ _ _ _ _ _ _ _ _ _ _ _ _ _ _ _ _ _ _ _ _ _ _ _ _ _ _ _ _ _ _ _ _ _ _ _ _ _ _ _ _ _ _ _ _ _ _ _ _ _ HN.out hbz5⟩
                  | some L =>
                    have HGN := Lib.hid hg
                    clear hg
                    go_wp2_with fail
                    rw [← HWY.out]
                    refine (getNums_any _ _ t3.size (byt t3) _ (byt_length t3) HRY.out (byt_byts t3) (grownCap_ge _ _ _ _) (grownCap_le_maxLen _ _ _ _ (by unfold maxLen; omega)) (by omega)).mono ?_
                    rintro e w5 hgot
                    rw [HGN.out] at hgot
                    obtain ⟨v5, rfl, ho5, hb5⟩ := hgot
                    have ho5b := own_cast ho5 ((i64s_length _).trans (nats_length L))
                    obtain ⟨A5, c5, rfl, _, _, _, _, _⟩ := own_val ho5b
                    have hd5 := hdy.below hb5 (by omega)
                    have k2 := hd5.c2
                    have l2 := hd5.f2
                    have hrow : RowAt w5 g wy.heap.size (.slice A5 L.length c5) L := ⟨by omega, hb5.size, ho5b⟩
                    have hty5 := hty.below hb5
                    have hrt5 := hrt2.atG (by omega) hb5
                    have hbz5 := hbz3.trans (hb5.mono hbz3.size)
                    have hsz5 := hb5.size
                    clear q1 p0 hcv ho5 ho5b
                    go_wp2_with fail
                    go_roundw
                    case rel =>
                      have hdn := hd5.set2 (.slice A5 L.length c5)
                      exact ⟨1, by go_num, .inr (.inl ⟨rfl, _, L, wy.heap.size, HGN.out, hrow.set_, hdn⟩), hty5.set_ (by omega), hrt5.setG hbg, hbz5.setCell HGW.out _, by simp; omega⟩
                    case measure => simp [intOf]
                · obtain ⟨wy, hwy⟩ : ∃ wy, wy = Lib.bytesWorld wr 5 t4 := ⟨_, rfl⟩
                  have HL := Lib.hid hgl
                  have hby : Below wr.heap.size wr wy := by rw [hwy]; exact text_below wr 5 t4
                  have hry := text_rd wr 5 t4
                  rw [← byt_cells, ← hwy] at hry
                  have hcv := Lib.run_convert_string_bytes (P := Try.prog) wr 9 33 5 t4 Try.underlying9 Try.underlying33 Try.underlying5
                  have p1 := htw.2
                  have q1 := rd_strH hrt (k := 4) (s := t4) rfl
                  have hdy := hd.below hby hgz
                  have hty := htw.below hby
                  have hrt2 := hrt.atG hbz2 hby
                  have hbz3 := hbz.trans (hby.mono hbz.size)
                  have hsy := hby.size
                  have hrow1 := hrw.below hby
                  have HWY := Lib.hid hwy
                  have HRY := Lib.hid hry
                  clear htw hgl hrw hd hrt hwy hry hby
                  have hz4 := Z4.out
                  cases hg : getNums (byt t4) with
                  | none =>
                    have HN : Hid (parseH zs = none) := HPAR.out.trans (textsH_not (b1 := true) (b2 := true) HX.out.1 HY.out.1 (by rw [nums_none hg]; simp))
                    have HGN := Lib.hid hg
                    clear hg
                    go_wp2_with fail
                    rw [← HWY.out]
                    refine (getNums_any _ _ t4.size (byt t4) _ (byt_length t4) HRY.out (byt_byts t4) (grownCap_ge _ _ _ _) (grownCap_le_maxLen _ _ _ _ (by unfold maxLen; omega)) (by omega)).mono ?_
                    rintro e w5 hgot
                    rw [HGN.out] at hgot
                    obtain ⟨rfl, hb5⟩ := hgot
                    have hbz5 := hbz3.trans (hb5.mono hbz3.size)
                    clear q1 p1 hcv
                    go_wp2_with fail
                    go_step3
                    show 0 = 0 ∧ WrongH (parseH zs = none) w w1 _ _
                    exact ⟨rfl, .mk _ _ _ _ _ _ _ _ _ _ _ _ _ _ _ _ _ _ _ _ _ _ _ _ _ _ _ _ _ _ _ _ _ _ _ _ _ _ _ _ _ _ _ _ _ _ _ _ _ _ _ _ _ _ _ _ _ _ _ _ _ _ _ _ _ _ _ _ _ _ _ _ _ _ _ _ _ _ _ _ _ _ _ _ _ _ _ _ _ _ _ _ _ _ _ _ _ HN.out hbz5⟩
                  | some L =>
                    have HGN := Lib.hid hg
                    clear hg
                    go_wp2_with fail
                    rw [← HWY.out]
                    refine (getNums_any _ _ t4.size (byt t4) _ (byt_length t4) HRY.out (byt_byts t4) (grownCap_ge _ _ _ _) (grownCap_le_maxLen _ _ _ _ (by unfold maxLen; omega)) (by omega)).mono ?_
                    rintro e w5 hgot
                    rw [HGN.out] at hgot
                    obtain ⟨v5, rfl, ho5, hb5⟩ := hgot
                    have ho5b := own_cast ho5 ((i64s_length _).trans (nats_length L))
                    obtain ⟨A5, c5, rfl, _, _, _, _, _⟩ := own_val ho5b
                    have hd5 := hdy.below hb5 (by omega)
                    have k3 := hd5.c3
                    have l3 := hd5.f3
                    have hrow : RowAt w5 g wy.heap.size (.slice A5 L.length c5) L := ⟨by omega, hb5.size, ho5b⟩
                    have hty5 := hty.below hb5
                    have hrt5 := hrt2.atG (by omega) hb5
                    have hbz5 := hbz3.trans (hb5.mono hbz3.size)
                    have hsz5 := hb5.size
                    clear q1 p1 hcv ho5 ho5b
                    go_wp2_with fail
                    go_roundw
                    case rel =>
                      have hdn := hd5.set3 (.slice A5 L.length c5)
                      exact ⟨2, by go_num, .inr (.inr ⟨rfl, _, LB, B1, _, L, wy.heap.size, HL.out, HGN.out, (hrow1.below hb5).set_, hrow.set_, row_not hrow1.2.2 hrow.2.2 (Nat.le_refl _), hdn⟩), hty5.set_ (by omega), hrt5.setG hbg, hbz5.setCell HGW.out _, by simp; omega⟩
                    case measure => simp [intOf]
                · have hwg : w.heap.size < g := by have h1 := HS1.out; have h2 := HG.out; omega
                  have hbw : Below w.heap.size w wr := hb1.trans (hbz.mono hb1.size)
                  obtain ⟨AB, cB, rfl, _, _, hrB, _, _⟩ := own_val hrwB.2.2
                  obtain ⟨AP, cP, rfl, _, _, hrP, _, _⟩ := own_val hrwP.2.2
                  have hlB := nums_len hg3
                  have hlP := nums_len hg4
                  have hz3 := Z3.out
                  have hz4 := Z4.out
                  obtain ⟨k0, k1, k2, k3, _, _, _, _⟩ := hd
                  cases hbt : wideB x y (nats LB) (nats LP) with
                  | false =>
                    have HN : Hid (parseH zs = none) := HPAR.out.trans (textsH_bad HX.out.2 HY.out.2 (nums_some hg3) (nums_some hg4) hbt)
                    have HI : Hid (isB x y (nats LB) (nats LP) 16 0 = false) := (is_wide _ _ _ _).trans hbt
                    clear hbt hg3 hg4 hne hrwB hrwP
                    go_wp2_with fail
                    refine (isHeader_of false x y AB cB LB.length (nats LB) AP cP LP.length (nats LP) _ _ _ HI.out (nats_length LB) (nats_length LP) hrB hrP (by omega) (by omega)).mono ?_
                    rintro e w9 ⟨rfl, hb9⟩
                    obtain ⟨m0, m1, m2, m3, f0, f1, f2, f3⟩ := HCZ.out _ (hbz.trans (hb9.mono hbz.size))
                    have hbw9 := hbw.trans (hb9.mono hbw.size)
                    clear k0 k1 k2 k3
                    go_wp2_with fail
                    go_step3
                    go_wp2_with fail
                    simp only [Exit.jump]
                    refine bodyPost_ret (v := .tuple #[.agg #[.int .i64 0, .int .i64 0, .slice none 0 0, .slice none 0 0], .int .i64 1]) (by simp [results, Try.results68, go_sem, m0, m1, m2, m3]) rfl (hparsed_none HN.out ?_ rfl)
                    exact (((hbw9.setCell (by simp) _).setCell (by simp) _).setCell (by simp) _).setCell (by simp) _
                  | true =>
                    have HN : Hid (parseH zs = some (x, y, nats LB, nats LP)) := HPAR.out.trans (textsH_good HW0.out HX.out.1 HY.out.1 HX.out.2 HY.out.2 (nums_some hg3) (nums_some hg4) hbt)
                    have HI : Hid (isB x y (nats LB) (nats LP) 16 0 = true) := (is_wide _ _ _ _).trans hbt
                    have HNE := Lib.hid hne
                    clear hbt hg3 hg4 hne
                    go_wp2_with fail
                    refine (isHeader_of true x y AB cB LB.length (nats LB) AP cP LP.length (nats LP) _ _ _ HI.out (nats_length LB) (nats_length LP) hrB hrP (by omega) (by omega)).mono ?_
                    rintro e w9 ⟨rfl, hb9⟩
                    obtain ⟨m0, m1, m2, m3, f0, f1, f2, f3⟩ := HCZ.out _ (hbz.trans (hb9.mono hbz.size))
                    have hbw9 := hbw.trans (hb9.mono hbw.size)
                    have r0 := (hb9.cell (p := ⟨g, 0, none⟩) hgz).trans k0
                    have r1 := (hb9.cell (p := ⟨g, 1, none⟩) hgz).trans k1
                    have r2 := (hb9.cell (p := ⟨g, 2, none⟩) hgz).trans k2
                    have r3 := (hb9.cell (p := ⟨g, 3, none⟩) hgz).trans k3
                    have hoB := (hrwB.below hb9).2.2
                    have hoP := (hrwP.below hb9).2.2
                    have hB1 := hrwB.1
                    have hB2 := hrwP.1
                    clear k0 k1 k2 k3 hrwB hrwP
                    go_wp2_with fail
                    simp only [Exit.jump]
                    refine bodyPost_ret (v := .tuple #[.agg #[.int .i64 x, .int .i64 y, .slice AB LB.length cB, .slice AP LP.length cP], .int .i64 0]) (by simp [results, Try.results68, go_sem, m0, m1, m2, m3]) rfl (hparsed_some HN.out (nats_length LB) (nats_length LP) ?_ rfl ?_ ?_ HNE.out)
                    · exact (((hbw9.setCell (by simp) _).setCell (by simp) _).setCell (by simp) _).setCell (by simp) _
                    · exact own_more (ownsRow_setCell_below (ownsRow_setCell_below (ownsRow_setCell_below (ownsRow_setCell_below hoB (by simp; omega) _) (by simp; omega) _) (by simp; omega) _) (by simp; omega) _) (by omega)
                    · exact own_more (ownsRow_setCell_below (ownsRow_setCell_below (ownsRow_setCell_below (ownsRow_setCell_below hoP (by simp; omega) _) (by simp; omega) _) (by simp; omega) _) (by simp; omega) _) (by omega)
        · have ht0 : (t0.toList == [104, 101, 97, 100, 101, 114]) = false := by
            rw [← headW_toList, beq_eq_false_iff_ne]
            exact fun h => hw (str_toListH.1 h)
          have ht0' : (t0.toList != [104, 101, 97, 100, 101, 114]) = true := by rw [bne, ht0]; rfl
          have HN : Hid (parseH zs = none) := HPAR.out.trans (by rw [textsH_five, if_neg]; exact fun h => hw h.1)
          clear hw hd3
          go_wp2_with fail
          go_step3
          show 0 = 0 ∧ WrongH (parseH zs = none) w w1 _ _
          exact ⟨rfl, .mk _ _ _ _ _ _ _ _ _ _ _ _ _ _ _ _ _ _ _ _ _ _ _ _ _ _ _ _ _ _ _ _ _ _ _ _ _ _ _ _ _ _ _ _ _ _ _ _ _ _ _ _ _ _ _ _ _ _ _ _ _ _ _ _ _ _ _ _ _ _ _ _ _ _ _ _ _ _ _ _ _ _ _ _ _ _ _ _ _ _ _ _ _ _ _ _ _ HN.out hbj⟩
      · have j1 : ((nT : Int) != 5) = true := by simp; omega
        have HN : Hid (parseH zs = none) := HPAR.out.trans (textsH_odd (by rw [HNT.out]; exact h5))
        clear h5
        go_wp2_with fail
        go_step3
        show 0 = 0 ∧ WrongH (parseH zs = none) w w1 _ _
        exact ⟨rfl, .mk _ _ _ _ _ _ _ _ _ _ _ _ _ _ _ _ _ _ _ _ _ _ _ _ _ _ _ _ _ _ _ _ _ _ _ _ _ _ _ _ _ _ _ _ _ _ _ _ _ _ _ _ _ _ _ _ _ _ _ _ _ _ _ _ _ _ _ _ _ _ _ _ _ _ _ _ _ _ _ _ _ _ _ _ _ _ _ _ _ _ _ _ _ _ _ _ _ HN.out hbj⟩
  · refine wrongH_elim ?_
    intro u0 u1 u3 u4 u5 u6 u7 u8 u9 u10 u11 u12 u13 u14 u15 u16 u17 u18 u19 u20 u21 u22 u23 u24 u25 u26 u27 u28 u29 u30 u31 u32 u33 u34 u35 u36 u37 u38 u39 u40 u41 u42 u43 u44 u45 u46 u47 u48 u49 u50 u51 u52 u53 u54 u55 u56 u57 u58 u59 u60 u61 u62 u63 u64 u65 u66 u67 u68 u69 u70 u71 u72 u73 u74 u75 u76 u77 u78 u79 u80 u81 u82 u83 u84 u85 u86 u87 u88 u89 u90 u91 u92 u93 u94 u95 u96 w' hnone hb
    have HN := Lib.hid hnone
    clear hnone
    obtain ⟨m0, m1, m2, m3, f0, f1, f2, f3⟩ := HCZ.out _ hb
    have hbw : Below w.heap.size w w' := hb1.trans (hb.mono hb1.size)
    go_wp2_with fail
    simp only [Exit.jump]
    refine bodyPost_ret (v := .tuple #[.agg #[.int .i64 0, .int .i64 0, .slice none 0 0, .slice none 0 0], .int .i64 1]) (by simp [results, Try.results68, go_sem, m0, m1, m2, m3]) rfl (hparsed_none HN.out ?_ rfl)
    exact (((hbw.setCell (by simp) _).setCell (by simp) _).setCell (by simp) _).setCell (by simp) _

end Go.Proofs.Ytafkcofocjellaa
