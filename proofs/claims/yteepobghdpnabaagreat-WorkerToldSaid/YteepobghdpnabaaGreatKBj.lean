/-
 The page's copies of waits, held batches, workers.
-/
import Derived.Test.YteepobghdpnabaaGreatKBf
import Derived.Test.YteepobghdpnabaaGreatKBi
import Derived.Test.YteepobghdpnabaaGreatKBe
import Derived.Test.YteepobghdpnabaaGreatKBa
import Derived.Test.YteepobghdpnabaaGreatKBd
import Derived.Test.YteepobghdpnabaaGreatKBg
namespace Go.Proofs.YteepobghdpnabaaGreat
open Go.RowKit

section
variable {α : Type} {K : Kd α} {w w1 w2 : World} {a a' o : Ad} {ms : List (α × Ad)} {B : Nat}
theorem RowOwn.push (h : RowOwn K B w a ms) (hb : Below w.heap.size w w1) {x : α} (ho : w1.ownsRow w.heap.size K.e2 K.s2 o.v o.n (K.bd x)) (hl : K.len x = o.n) (hB : B ≤ w.heap.size) {b : Obj} (hg : (w1.alloc b).grownBy w2 a.v.ownBlock)
  (hr : w2.ownsRow B K.e K.s a'.v a'.n (cellsK K ms ++ K.cells x o.v)) (hn : a'.n = a.n + 1) : RowOwn K B w2 a' (ms ++ [(x, o)]) := by
 have hT : Touch (fun k => a.v.ownBlock = some k) w1 w2 := ((Touch.refl (fun k => a.v.ownBlock = some k) w1).alloc b).on (Touch.grown hg fun k hk => hk)
 have hins := h.ins (x := x) (o := o) (i := ms.length) (a' := a') hb ho hl hB hT (by
  rw [List.take_of_length_le (by rw [cellsK_length]; exact Nat.le_refl _), List.drop_of_length_le (by rw [cellsK_length]; exact Nat.le_refl _), List.append_nil]
  exact hr) hn (Nat.le_refl _)
 rw [insAt, List.take_length, List.drop_length] at hins
 exact hins
end
def CopiedTo (e2 : TypeId) (s2 : Nat) (B n : Nat) (xs : List Value) (f : Value → Value) (w : World) (e : Ending) (w' : World) : Prop := ∃ o' : Ad, e = .returned (f o'.v) ∧ o'.n = n ∧ w'.ownsRow B e2 s2 o'.v n xs ∧ Below B w w'

def CopiesTo {α : Type} (K : Kd α) (ms : List (α × Ad)) (w : World) (e : Ending) (w' : World) : Prop := ∃ (a' : Ad) (ms' : List (α × Ad)), e = .returned a'.v ∧ RowOwn K w.heap.size w' a' ms' ∧ ms'.map Prod.fst = ms.map Prod.fst ∧ Below w.heap.size w w'
set_option maxHeartbeats 4000000 in
theorem rcopyWait_any (d : Int) (o : Ad) (S : List Int) (w : World) (h : SlIn w o S.length (i64s S)) (hn : S.length ≤ 1000000) :
  Calls Tryz.prog 72 #[.agg #[.int .i64 d, o.v]] w (CopiedTo 3 1 w.heap.size S.length (i64s S) (fun v => .agg #[.int .i64 d, v]) w) := by
 obtain ⟨A, n, c⟩ := o
 have hz : S.length = n := h.len
 have HI := Lib.hid h
 have HC : Hid (n ≤ c) := h.cap
 have HZ := Lib.hid hz
 unfold Ad.v
 clear h hz
 go_enter Tryz.func72, Tryz.ntmps72
 go_wp2_with fail
 refine (copyNumbers_any A c n S _ HZ.out (((HI.out.rd.alloc _).alloc _).alloc _) HC.out (by have := HZ.out; omega)).mono ?_
 rintro e w1 ⟨v, rfl, hob, hb⟩
 obtain ⟨A', c', rfl, hc', hm', _, _, _⟩ := own_val hob
 obtain ⟨hcc, hff⟩ := bcellH hb
 have hz : w.heap.size + 1 + 1 < w1.heap.size := by have := hb.size; simp at this; omega
 have hz1 : w.heap.size + 1 < w1.heap.size := by omega
 have hb3 : Below w.heap.size w w1 := ((((Below.refl _ _).alloc (Nat.le_refl _) _).alloc (by simp) _).alloc (by simp; omega) _).trans (hb.mono (by simp; omega))
 have HOB : Hid (w1.ownsRow (w.heap.size + 1 + 1 + 1) 3 1 (.slice A' (i64s S).length c') (i64s S).length (i64s S)) := ownS_more hob (by simp)
 have HB3 := Lib.hid hb3
 clear hob hb hb3
 rw [i64s_length] at HOB ⊢
 go_wp2_with fail
 refine bodyPost_ret (v := .agg #[.int .i64 d, .slice A' S.length c']) (by simp [results, Tryz.results72, go_sem, hcc]) rfl ⟨⟨A', S.length, c'⟩, rfl, rfl, ?_, ?_⟩
 ·exact ownS_more (B := w.heap.size + 1 + 1 + 1) (ownsRow_setCell_below (ownsRow_setCell_below (ownsRow_setCell_below HOB.out (by simp) _) (by simp) _) (by simp) _) (by omega)
 ·exact ((HB3.out.setCell (by simp; omega) _).setCell (by simp) _).setCell (by simp) _

set_option maxHeartbeats 4000000 in
theorem rcopyHeld_any (d ba bn : Int) (o : Ad) (L : List TxD) (w : World) (h : SlIn w o L.length (txs L)) (hn : L.length ≤ 1000000) :
  Calls Tryz.prog 73 #[.agg #[.int .i64 d, .int .i64 ba, .int .i64 bn, o.v]] w (CopiedTo 40 4 w.heap.size L.length (txs L) (fun v => .agg #[.int .i64 d, .int .i64 ba, .int .i64 bn, v]) w) := by
 obtain ⟨A, n, c⟩ := o
 have hz : L.length = n := h.len
 have HI := Lib.hid h
 have HC : Hid (n ≤ c) := h.cap
 have HZ := Lib.hid hz
 unfold Ad.v
 clear h hz
 go_enter Tryz.func73, Tryz.ntmps73
 go_wp2_with fail
 refine (rcopyBat_any ba bn A c n L _ HZ.out (((HI.out.rd.alloc _).alloc _).alloc _) HC.out (by have := HZ.out; omega)).mono ?_
 rintro e w1 ⟨A', c', rfl, hob, -, -, -, hb⟩
 obtain ⟨hcc, hff⟩ := bcellH hb
 have hz : w.heap.size + 1 + 1 < w1.heap.size := by have := hb.size; simp at this; omega
 have hz1 : w.heap.size + 1 < w1.heap.size := by omega
 have hb3 : Below w.heap.size w w1 := ((((Below.refl _ _).alloc (Nat.le_refl _) _).alloc (by simp) _).alloc (by simp; omega) _).trans (hb.mono (by simp; omega))
 have HOB : Hid (w1.ownsRow (w.heap.size + 1 + 1 + 1) 40 4 (.slice A' n c') n (txs L)) := ownS_more hob (by simp)
 have HB3 := Lib.hid hb3
 clear hob hb hb3
 go_wp2_with fail
 refine bodyPost_ret (v := .agg #[.int .i64 d, .int .i64 ba, .int .i64 bn, .slice A' n c']) (by simp [results, Tryz.results73, go_sem, hcc]) rfl ⟨⟨A', n, c'⟩, rfl, HZ.out.symm, ?_, ?_⟩
 ·rw [HZ.out]
  exact ownS_more (B := w.heap.size + 1 + 1 + 1) (ownsRow_setCell_below (ownsRow_setCell_below (ownsRow_setCell_below (ownsRow_setCell_below (ownsRow_setCell_below (ownsRow_setCell_below (ownsRow_setCell_below HOB.out (by simp) _) (by simp) _) (by simp) _) (by simp) _) (by simp) _) (by simp) _) (by simp) _) (by omega)
 ·exact ((((((HB3.out.setCell (by simp; omega) _).setCell (by simp; omega) _).setCell (by simp; omega) _).setCell (by simp) _).setCell (by simp) _).setCell (by simp) _).setCell (by simp) _

set_option maxRecDepth 100000 in
set_option maxHeartbeats 8000000 in
theorem rcopyWaits_any (a : Ad) (ms : List (WtD × Ad)) (w : World) (h : RowIn KW w a ms) (hn : ms.length ≤ 1000000) (hs : ∀ x ∈ ms, KW.len x.1 ≤ 1000000) :
    Calls Tryz.prog 27 #[a.v] w (CopiesTo KW ms w) := by
  obtain ⟨A, n, c⟩ := a
  obtain ⟨i0, hi0, hz0, hz1, hz2⟩ := info_parts info_zwait
  have HI0 := Lib.hid hi0
  have HZ0 := Lib.hid hz0
  have HZ1 := Lib.hid hz1
  have HZ2 := Lib.hid hz2
  have hz : ms.length = n := h.row.len
  have HZ := Lib.hid hz
  have HR := Lib.hid h
  have HS := Lib.hid hs
  unfold Ad.v
  have hn2 : n ≤ 1000000 := by omega
  clear hz h hs hi0 hz0 hz1 hz2 hn
  go_enter Tryz.func27, Tryz.ntmps27
  go_wp2_with fail
  go_loopw [3, 4] (fun v i wr => ∃ (k : Nat) (o' : Ad) (ms' : List (WtD × Ad)), i = .int .i64 k ∧ v = .slice o'.A o'.n o'.c ∧ k ≤ n ∧ Hid (o'.n = k) ∧ Hid (ms'.map Prod.fst = (ms.map Prod.fst).take k) ∧ Hid (RowOwn KW w.heap.size wr o' ms') ∧ Below w.heap.size w wr) (fun _ i _ => n - (intOf i).toNat)
  case atStart => exact ⟨0, noAd, [], rfl, rfl, Nat.zero_le _, rfl, rfl, rowOwn_none _ _, Below.refl _ _⟩
  case round =>
    obtain ⟨k, o', ms', rfl, rfl, hk, HOK, HM, HO, hb⟩ := hrel
    have i0' : (0 : Int) ≤ (k : Int) := by omega
    by_cases hlt : k < n
    · have i1 : (k : Int) < (n : Int) := by omega
      obtain ⟨x, hx⟩ : ∃ x, ms[k]? = some x := ⟨ms[k]'(by rw [HZ.out]; exact hlt), by simp⟩
      obtain ⟨b, off, rfl, hbl, hcl⟩ := (HR.out.row.rd.below hb).open_ (by rw [cellsK_length, HZ.out]; show 0 < n * 2; omega)
      have hcell := fun j v hv => hcl (k * 2 + j) v (cellsK_at KW hx (j := j) (v := v) hv)
      have c0 : wr.cell? ⟨b, off + k * 2, none⟩ = some (.int .i64 x.1.d) := hcell 0 _ rfl
      have c1 : wr.cell? ⟨b, off + k * 2 + 1, none⟩ = some (.slice x.2.A x.2.n x.2.c) := by have := hcell 1 _ rfl; rw [← Nat.add_assoc] at this; exact this
      have hsub := (HR.out.sub x (List.mem_of_getElem? hx)).below hb
      have HSB := Lib.hid hsub
      have HXN : Hid (KW.len x.1 ≤ 1000000) := HS.out x (List.mem_of_getElem? hx)
      have HP1 : Hid ((ms.map Prod.fst).take (k + 1) = ms'.map Prod.fst ++ [x.1]) := by
        show _ = _
        rw [take_nxt (x := x.1) (by rw [List.getElem?_map, hx]; rfl), HM.out]
      have hwB := hb.size
      have hon : o'.n ≤ 1000000 := by have := HOK.out; omega
      clear hcell hcl hx hsub
      go_upto_region 5 with fail
      go_wp2_with (first
        | (go_at_call 72; refine (rcopyWait_any x.1.d x.2 x.1.S _ HSB.out HXN.out).mono ?_
           rintro e w4 ⟨⟨A4, n4, c4⟩, rfl, hn4, ho4, hb4⟩
           obtain rfl : n4 = x.1.S.length := hn4
           dsimp only [Ad.v]
           have HO4 := Lib.hid ho4
           have HB4 := Lib.hid hb4
           have hz4 := hb4.size)
        | (at_builtin; refine wpList_append_lies _ rfl _ _ 23 rfl w.heap.size KW.e i0 zwait 2 32 Tryz.underlying23 HI0.out HZ0.out HZ1.out HZ2.out rfl (by decide) (.slice o'.A o'.n o'.c) o'.n (cellsK KW ms') rfl (ownS_below HO.out.row (HB4.out.alloc hz4 _)) ⟨w4.heap.size, 0, none⟩ 1 1 (KW.cells x.1 (.slice A4 x.1.S.length c4)) rfl rfl (fun j y hj => by rw [Addr.add_lit, Nat.zero_add]; exact cells_new w4 (KW.cells x.1 (.slice A4 x.1.S.length c4)) KW.e j y hj) (KW.one x.1 _ rfl) (by decide) (by unfold maxLen; omega) (by have := HOK.out; omega) (by simp; omega) _ rfl ?_
           intro g' c' w5 q1 q2 q3 q4))
      have hpush := HO.out.push (x := x.1) (o := ⟨A4, x.1.S.length, c4⟩) (a' := ⟨some ⟨g', 0, none⟩, o'.n + 1, c'⟩) HB4.out HO4.out rfl hwB q2 q1 rfl
      have hb5 : Below w.heap.size w w5 := (hb.trans (HB4.out.mono hwB)).trans ((((Touch.refl (fun k => o'.v.ownBlock = some k) w4).alloc _).on (Touch.grown q2 fun k hk => hk)).below (fun j hj => (own_lt HO.out.row hj).2) (by omega))
      have HPU := Lib.hid hpush
      clear q1 q2 q3 q4 hpush
      go_wp2_with fail
      go_roundw
      case rel => exact ⟨k + 1, ⟨some ⟨g', 0, none⟩, o'.n + 1, c'⟩, ms' ++ [(x.1, ⟨A4, x.1.S.length, c4⟩)], by go_num, rfl, by omega, by show o'.n + 1 = _; rw [HOK.out], by show _ = _; rw [HP1.out, List.map_append]; rfl, HPU, hb5⟩
      case measure => simp [intOf]; omega
    · have i1 : ¬ ((k : Int) < (n : Int)) := by omega
      have HM2 : Hid (ms'.map Prod.fst = ms.map Prod.fst) := by
        have := HM.out
        rwa [List.take_of_length_le (by rw [List.length_map, HZ.out]; omega)] at this
      go_wp2_with fail
      go_ret
      exact ⟨o', ms', rfl, HO.out, HM2.out, hb⟩

set_option maxRecDepth 100000 in
set_option maxHeartbeats 8000000 in
theorem rcopyHelds_any (a : Ad) (ms : List (HlD × Ad)) (w : World) (h : RowIn KH w a ms) (hn : ms.length ≤ 1000000) (hs : ∀ x ∈ ms, KH.len x.1 ≤ 1000000) :
    Calls Tryz.prog 28 #[a.v] w (CopiesTo KH ms w) := by
  obtain ⟨A, n, c⟩ := a
  obtain ⟨i0, hi0, hz0, hz1, hz2⟩ := info_parts info_zheld
  have HI0 := Lib.hid hi0
  have HZ0 := Lib.hid hz0
  have HZ1 := Lib.hid hz1
  have HZ2 := Lib.hid hz2
  have hz : ms.length = n := h.row.len
  have HZ := Lib.hid hz
  have HR := Lib.hid h
  have HS := Lib.hid hs
  unfold Ad.v
  have hn2 : n ≤ 1000000 := by omega
  clear hz h hs hi0 hz0 hz1 hz2 hn
  go_enter Tryz.func28, Tryz.ntmps28
  go_wp2_with fail
  go_loopw [3, 4] (fun v i wr => ∃ (k : Nat) (o' : Ad) (ms' : List (HlD × Ad)), i = .int .i64 k ∧ v = .slice o'.A o'.n o'.c ∧ k ≤ n ∧ Hid (o'.n = k) ∧ Hid (ms'.map Prod.fst = (ms.map Prod.fst).take k) ∧ Hid (RowOwn KH w.heap.size wr o' ms') ∧ Below w.heap.size w wr) (fun _ i _ => n - (intOf i).toNat)
  case atStart => exact ⟨0, noAd, [], rfl, rfl, Nat.zero_le _, rfl, rfl, rowOwn_none _ _, Below.refl _ _⟩
  case round =>
    obtain ⟨k, o', ms', rfl, rfl, hk, HOK, HM, HO, hb⟩ := hrel
    have i0' : (0 : Int) ≤ (k : Int) := by omega
    by_cases hlt : k < n
    · have i1 : (k : Int) < (n : Int) := by omega
      obtain ⟨x, hx⟩ : ∃ x, ms[k]? = some x := ⟨ms[k]'(by rw [HZ.out]; exact hlt), by simp⟩
      obtain ⟨b, off, rfl, hbl, hcl⟩ := (HR.out.row.rd.below hb).open_ (by rw [cellsK_length, HZ.out]; show 0 < n * 4; omega)
      have hcell := fun j v hv => hcl (k * 4 + j) v (cellsK_at KH hx (j := j) (v := v) hv)
      have c0 : wr.cell? ⟨b, off + k * 4, none⟩ = some (.int .i64 x.1.d) := hcell 0 _ rfl
      have c1 : wr.cell? ⟨b, off + k * 4 + 1, none⟩ = some (.int .i64 x.1.a) := by have := hcell 1 _ rfl; rw [← Nat.add_assoc] at this; exact this
      have c2 : wr.cell? ⟨b, off + k * 4 + 2, none⟩ = some (.int .i64 x.1.n) := by have := hcell 2 _ rfl; rw [← Nat.add_assoc] at this; exact this
      have c3 : wr.cell? ⟨b, off + k * 4 + 3, none⟩ = some (.slice x.2.A x.2.n x.2.c) := by have := hcell 3 _ rfl; rw [← Nat.add_assoc] at this; exact this
      have hsub := (HR.out.sub x (List.mem_of_getElem? hx)).below hb
      have HSB := Lib.hid hsub
      have HXN : Hid (KH.len x.1 ≤ 1000000) := HS.out x (List.mem_of_getElem? hx)
      have HP1 : Hid ((ms.map Prod.fst).take (k + 1) = ms'.map Prod.fst ++ [x.1]) := by
        show _ = _
        rw [take_nxt (x := x.1) (by rw [List.getElem?_map, hx]; rfl), HM.out]
      have hwB := hb.size
      have hon : o'.n ≤ 1000000 := by have := HOK.out; omega
      clear hcell hcl hx hsub
      go_upto_region 5 with fail
      go_wp2_with (first
        | (go_at_call 73; refine (rcopyHeld_any x.1.d x.1.a x.1.n x.2 x.1.L _ HSB.out HXN.out).mono ?_
           rintro e w4 ⟨⟨A4, n4, c4⟩, rfl, hn4, ho4, hb4⟩
           obtain rfl : n4 = x.1.L.length := hn4
           dsimp only [Ad.v]
           have HO4 := Lib.hid ho4
           have HB4 := Lib.hid hb4
           have hz4 := hb4.size)
        | (at_builtin; refine wpList_append_lies _ rfl _ _ 24 rfl w.heap.size KH.e i0 zheld 4 48 Tryz.underlying24 HI0.out HZ0.out HZ1.out HZ2.out rfl (by decide) (.slice o'.A o'.n o'.c) o'.n (cellsK KH ms') rfl (ownS_below HO.out.row (HB4.out.alloc hz4 _)) ⟨w4.heap.size, 0, none⟩ 1 1 (KH.cells x.1 (.slice A4 x.1.L.length c4)) rfl rfl (fun j y hj => by rw [Addr.add_lit, Nat.zero_add]; exact cells_new w4 (KH.cells x.1 (.slice A4 x.1.L.length c4)) KH.e j y hj) (KH.one x.1 _ rfl) (by decide) (by unfold maxLen; omega) (by have := HOK.out; omega) (by simp; omega) _ rfl ?_
           intro g' c' w5 q1 q2 q3 q4))
      have hpush := HO.out.push (x := x.1) (o := ⟨A4, x.1.L.length, c4⟩) (a' := ⟨some ⟨g', 0, none⟩, o'.n + 1, c'⟩) HB4.out HO4.out rfl hwB q2 q1 rfl
      have hb5 : Below w.heap.size w w5 := (hb.trans (HB4.out.mono hwB)).trans ((((Touch.refl (fun k => o'.v.ownBlock = some k) w4).alloc _).on (Touch.grown q2 fun k hk => hk)).below (fun j hj => (own_lt HO.out.row hj).2) (by omega))
      have HPU := Lib.hid hpush
      clear q1 q2 q3 q4 hpush
      go_wp2_with fail
      go_roundw
      case rel => exact ⟨k + 1, ⟨some ⟨g', 0, none⟩, o'.n + 1, c'⟩, ms' ++ [(x.1, ⟨A4, x.1.L.length, c4⟩)], by go_num, rfl, by omega, by show o'.n + 1 = _; rw [HOK.out], by show _ = _; rw [HP1.out, List.map_append]; rfl, HPU, hb5⟩
      case measure => simp [intOf]; omega
    · have i1 : ¬ ((k : Int) < (n : Int)) := by omega
      have HM2 : Hid (ms'.map Prod.fst = ms.map Prod.fst) := by
        have := HM.out
        rwa [List.take_of_length_le (by rw [List.length_map, HZ.out]; omega)] at this
      go_wp2_with fail
      go_ret
      exact ⟨o', ms', rfl, HO.out, HM2.out, hb⟩

end Go.Proofs.YteepobghdpnabaaGreat
namespace Go.Proofs.YteepobghdpnabaaGreat
open Go.RowKit

set_option maxHeartbeats 2000000 in
theorem reqBat_is (b : Bool) (a N : Int) (A : Option Addr) (c n : Nat) (L : List TxD) (a' N' : Int) (A' : Option Addr) (c' n' : Nat) (L' : List TxD) (w : World) (h : eqBatM a N L a' N' L' = b) (hz : L.length = n) (hr : Rd w A (txs L)) (hn : n ≤ 1073741824) (hz' : L'.length = n') (hr' : Rd w A' (txs L')) (hn' : n' ≤ 1073741824) :
  Calls Tryz.prog 48 #[.agg #[.int .i64 a, .int .i64 N, .slice A n c], .agg #[.int .i64 a', .int .i64 N', .slice A' n' c']] w (Tells w.heap.size w (.bool b)) := by
 have HZ := Lib.hid hz
 have HZ' := Lib.hid hz'
 have HE : Hid (eqBatM a N L a' N' L' = b) := h
 clear hz hz' h
 have hb3 : Below w.heap.size w ((w.alloc (.cells #[.int .i64 a, .int .i64 N, .slice A n c] 42)).alloc (.cells #[.int .i64 a', .int .i64 N', .slice A' n' c'] 42)) := ((Below.refl _ _).alloc (Nat.le_refl _) _).alloc (by simp) _
 by_cases g1 : a = a'
 ·by_cases g2 : N = N'
  ·have HV : Hid (decide (L = L') = b) := by
    show decide (L = L') = b
    rw [← HE.out, eqBatM, decide_eq_decide]
    exact ⟨fun h => ⟨g1, g2, h⟩, fun h => h.2.2⟩
   have j1 : (a == a') = true := by simp [g1]
   have j2 : (N == N') = true := by simp [g2]
   clear g1 g2
   go_enter Tryz.func48, Tryz.ntmps48
   go_wp2_with fail
   refine (eqTxs_any A A' c c' n n' L L' _ HZ.out HZ'.out ((hr.alloc _).alloc _) ((hr'.alloc _).alloc _) hn hn').mono ?_
   rintro e w1 ⟨rfl, dB, rfl⟩
   rw [HV.out]
   go_wp2_with fail
   go_ret
   exact ⟨rfl, below_n hb3 _⟩
  ·have HV : Hid (b = false) := by show b = false; rw [← HE.out, eqBatM, decide_eq_false_iff_not]; exact fun h => g2 h.2.1
   have j1 : (a == a') = true := by simp [g1]
   have j2 : (N == N') = false := by simp [g2]
   clear g1 g2
   go_enter Tryz.func48, Tryz.ntmps48
   go_wp2_with fail
   go_ret
   exact ⟨ret_bool HV.out.symm, hb3⟩
 ·have HV : Hid (b = false) := by show b = false; rw [← HE.out, eqBatM, decide_eq_false_iff_not]; exact fun h => g1 h.1
  have j1 : (a == a') = false := by simp [g1]
  clear g1
  go_enter Tryz.func48, Tryz.ntmps48
  go_wp2_with fail
  go_ret
  exact ⟨ret_bool HV.out.symm, hb3⟩

set_option maxHeartbeats 4000000 in
theorem reqCer_is (b : Bool) (a r : Int) (AB : Option Addr) (cB nB : Nat) (B : List Int) (AP : Option Addr) (cP nP : Nat) (P : List Int) (d : Int) (AS : Option Addr) (cS nS : Nat) (S : List Int) (a' r' : Int) (AB' : Option Addr) (cB' nB' : Nat) (B' : List Int) (AP' : Option Addr) (cP' nP' : Nat) (P' : List Int) (d' : Int) (AS' : Option Addr) (cS' nS' : Nat) (S' : List Int) (w : World) (h : eqCer a r B P d S a' r' B' P' d' S' = b)
  (hzB : B.length = nB) (hrB : Rd w AB (i64s B)) (hnB : nB ≤ 1073741824) (hzP : P.length = nP) (hrP : Rd w AP (i64s P)) (hnP : nP ≤ 1073741824) (hzS : S.length = nS) (hrS : Rd w AS (i64s S)) (hnS : nS ≤ 1073741824)
  (hzB' : B'.length = nB') (hrB' : Rd w AB' (i64s B')) (hnB' : nB' ≤ 1073741824) (hzP' : P'.length = nP') (hrP' : Rd w AP' (i64s P')) (hnP' : nP' ≤ 1073741824) (hzS' : S'.length = nS') (hrS' : Rd w AS' (i64s S')) (hnS' : nS' ≤ 1073741824) :
  Calls Tryz.prog 105 #[.agg #[.int .i64 a, .int .i64 r, .slice AB nB cB, .slice AP nP cP, .int .i64 d, .slice AS nS cS], .agg #[.int .i64 a', .int .i64 r', .slice AB' nB' cB', .slice AP' nP' cP', .int .i64 d', .slice AS' nS' cS']] w (Tells w.heap.size w (.bool b)) := by
 obtain ⟨w2, hw2⟩ : ∃ w2, w2 = (w.alloc (.cells #[.int .i64 a, .int .i64 r, .slice AB nB cB, .slice AP nP cP, .int .i64 d, .slice AS nS cS] 46)).alloc (.cells #[.int .i64 a', .int .i64 r', .slice AB' nB' cB', .slice AP' nP' cP', .int .i64 d', .slice AS' nS' cS'] 46) := ⟨_, rfl⟩
 have hb2 : Below w.heap.size w w2 := by rw [hw2]; exact ((Below.refl _ _).alloc (Nat.le_refl _) _).alloc (by simp) _
 have bx : Box w2 w.heap.size [.int .i64 a, .int .i64 r, .slice AB nB cB, .slice AP nP cP, .int .i64 d, .slice AS nS cS] := by
  rw [hw2]
  exact (box_new w [.int .i64 a, .int .i64 r, .slice AB nB cB, .slice AP nP cP, .int .i64 d, .slice AS nS cS] 46).below ((Below.refl _ _).alloc (Nat.le_refl _) _) (by simp)
 have by_ : Box w2 (w.heap.size + 1) [.int .i64 a', .int .i64 r', .slice AB' nB' cB', .slice AP' nP' cP', .int .i64 d', .slice AS' nS' cS'] := by
  rw [hw2]
  have h := box_new (w.alloc (.cells #[.int .i64 a, .int .i64 r, .slice AB nB cB, .slice AP nP cP, .int .i64 d, .slice AS nS cS] 46)) [.int .i64 a', .int .i64 r', .slice AB' nB' cB', .slice AP' nP' cP', .int .i64 d', .slice AS' nS' cS'] 46
  have e : (w.alloc (.cells #[.int .i64 a, .int .i64 r, .slice AB nB cB, .slice AP nP cP, .int .i64 d, .slice AS nS cS] 46)).heap.size = w.heap.size + 1 := by simp
  rw [e] at h
  exact h
 have HW := Lib.hid hw2
 have HX := Lib.hid bx
 have HY := Lib.hid by_
 have HZB := Lib.hid hzB
 have HZP := Lib.hid hzP
 have HZS := Lib.hid hzS
 have HZB' := Lib.hid hzB'
 have HZP' := Lib.hid hzP'
 have HZS' := Lib.hid hzS'
 have HE : Hid (eqCer a r B P d S a' r' B' P' d' S' = b) := h
 clear hw2 bx by_ hzB hzP hzS hzB' hzP' hzS' h
 cases hH : eqHdr a r B P a' r' B' P' with
 | false =>
  have HV : Hid (b = false) := by
   show b = false
   rw [← HE.out, eqCer, decide_eq_false_iff_not]
   exact fun h => by rw [eqHdr, decide_eq_false_iff_not] at hH; exact hH h.1
  have HH := Lib.hid hH
  clear hH
  go_enter Tryz.func105, Tryz.ntmps105
  go_wp2_with fail
  rw [← HW.out]
  refine (reqHdr_is false a r AB cB nB B AP cP nP P a' r' AB' cB' nB' B' AP' cP' nP' P' _ HH.out HZB.out (hrB.below hb2) hnB HZP.out (hrP.below hb2) hnP HZB'.out (hrB'.below hb2) hnB' HZP'.out (hrP'.below hb2) hnP').mono ?_
  rintro e w3 ⟨rfl, hb3⟩
  go_wp2_with fail
  go_ret
  exact ⟨ret_bool HV.out.symm, hb2.trans (hb3.mono hb2.size)⟩
 | true =>
  have hHt : a = a' ∧ r = r' ∧ B = B' ∧ P = P' := by rw [eqHdr, decide_eq_true_eq] at hH; exact hH
  have HH := Lib.hid hH
  clear hH
  by_cases g1 : d = d'
  ·have HV : Hid (decide (S = S') = b) := by
    show decide (S = S') = b
    rw [← HE.out, eqCer, decide_eq_decide]
    exact ⟨fun h => ⟨hHt, g1, h⟩, fun h => h.2.2⟩
   have j1 : (d == d') = true := by simp [g1]
   clear g1 hHt
   go_enter Tryz.func105, Tryz.ntmps105
   go_wp2_with fail
   rw [← HW.out]
   refine (reqHdr_is true a r AB cB nB B AP cP nP P a' r' AB' cB' nB' B' AP' cP' nP' P' _ HH.out HZB.out (hrB.below hb2) hnB HZP.out (hrP.below hb2) hnP HZB'.out (hrB'.below hb2) hnB' HZP'.out (hrP'.below hb2) hnP').mono ?_
   rintro e w3 ⟨rfl, hb3⟩
   have hb4 := hb2.trans (hb3.mono hb2.size)
   have hX3 := HX.out.below hb3 HX.out.1
   have hY3 := HY.out.below hb3 HY.out.1
   have x4 := (hX3.2 4 _ rfl).1
   have x5 := (hX3.2 5 _ rfl).1
   have y4 := (hY3.2 4 _ rfl).1
   have y5 := (hY3.2 5 _ rfl).1
   clear hX3 hY3
   go_wp2_with fail
   refine (eqNumbers_any AS AS' cS cS' nS nS' S S' _ HZS.out HZS'.out (hrS.below hb4) (hrS'.below hb4) hnS hnS').mono ?_
   rintro e w5 ⟨rfl, dS, rfl⟩
   rw [HV.out]
   go_wp2_with fail
   go_ret
   exact ⟨rfl, below_n hb4 _⟩
  ·have HV : Hid (b = false) := by show b = false; rw [← HE.out, eqCer, decide_eq_false_iff_not]; exact fun h => g1 h.2.1
   have j1 : (d == d') = false := by simp [g1]
   clear g1 hHt
   go_enter Tryz.func105, Tryz.ntmps105
   go_wp2_with fail
   rw [← HW.out]
   refine (reqHdr_is true a r AB cB nB B AP cP nP P a' r' AB' cB' nB' B' AP' cP' nP' P' _ HH.out HZB.out (hrB.below hb2) hnB HZP.out (hrP.below hb2) hnP HZB'.out (hrB'.below hb2) hnB' HZP'.out (hrP'.below hb2) hnP').mono ?_
   rintro e w3 ⟨rfl, hb3⟩
   have hX3 := HX.out.below hb3 HX.out.1
   have hY3 := HY.out.below hb3 HY.out.1
   have x4 := (hX3.2 4 _ rfl).1
   have y4 := (hY3.2 4 _ rfl).1
   clear hX3 hY3
   go_wp2_with fail
   go_ret
   exact ⟨ret_bool HV.out.symm, hb2.trans (hb3.mono hb2.size)⟩

set_option maxRecDepth 100000 in
set_option maxHeartbeats 8000000 in
theorem reqMsg_is (b : Bool) (m m' : MsgD) (a a' : MsgA) (w : World) (h : decide (m = m') = b) (hi : MsgIn w m a) (hi' : MsgIn w m' a') (hf : MsgFew 1000000 a) (hf' : MsgFew 1000000 a') :
  Calls Tryz.prog 57 #[msgV m a, msgV m' a'] w (Tells w.heap.size w (.bool b)) := by
 obtain ⟨w2, hw2⟩ : ∃ w2, w2 = (w.alloc (.cells #[.int .i64 m.k, .int .i64 m.f, .int .i64 m.t, .int .i64 m.d, .int .i64 m.ba, .int .i64 m.bn, .slice a.AL a.nL a.cL, .int .i64 m.ha, .int .i64 m.hr, .slice a.AhB a.nhB a.chB, .slice a.AhP a.nhP a.chP, .int .i64 m.ca, .int .i64 m.cr, .slice a.AcB a.ncB a.ccB, .slice a.AcP a.ncP a.ccP, .int .i64 m.cd, .slice a.AcS a.ncS a.ccS, .slice a.AD a.nD a.cD] 48)).alloc (.cells #[.int .i64 m'.k, .int .i64 m'.f, .int .i64 m'.t, .int .i64 m'.d, .int .i64 m'.ba, .int .i64 m'.bn, .slice a'.AL a'.nL a'.cL, .int .i64 m'.ha, .int .i64 m'.hr, .slice a'.AhB a'.nhB a'.chB, .slice a'.AhP a'.nhP a'.chP, .int .i64 m'.ca, .int .i64 m'.cr, .slice a'.AcB a'.ncB a'.ccB, .slice a'.AcP a'.ncP a'.ccP, .int .i64 m'.cd, .slice a'.AcS a'.ncS a'.ccS, .slice a'.AD a'.nD a'.cD] 48) := ⟨_, rfl⟩
 have hb2 : Below w.heap.size w w2 := by rw [hw2]; exact ((Below.refl _ _).alloc (Nat.le_refl _) _).alloc (by simp) _
 have bx : Box w2 w.heap.size (msgC m a) := by
  rw [hw2]
  exact (box_new w (msgC m a) 48).below ((Below.refl _ _).alloc (Nat.le_refl _) _) (by simp)
 have by_ : Box w2 (w.heap.size + 1) (msgC m' a') := by
  rw [hw2]
  have h := box_new (w.alloc (.cells #[.int .i64 m.k, .int .i64 m.f, .int .i64 m.t, .int .i64 m.d, .int .i64 m.ba, .int .i64 m.bn, .slice a.AL a.nL a.cL, .int .i64 m.ha, .int .i64 m.hr, .slice a.AhB a.nhB a.chB, .slice a.AhP a.nhP a.chP, .int .i64 m.ca, .int .i64 m.cr, .slice a.AcB a.ncB a.ccB, .slice a.AcP a.ncP a.ccP, .int .i64 m.cd, .slice a.AcS a.ncS a.ccS, .slice a.AD a.nD a.cD] 48)) (msgC m' a') 48
  have e : (w.alloc (.cells #[.int .i64 m.k, .int .i64 m.f, .int .i64 m.t, .int .i64 m.d, .int .i64 m.ba, .int .i64 m.bn, .slice a.AL a.nL a.cL, .int .i64 m.ha, .int .i64 m.hr, .slice a.AhB a.nhB a.chB, .slice a.AhP a.nhP a.chP, .int .i64 m.ca, .int .i64 m.cr, .slice a.AcB a.ncB a.ccB, .slice a.AcP a.ncP a.ccP, .int .i64 m.cd, .slice a.AcS a.ncS a.ccS, .slice a.AD a.nD a.cD] 48)).heap.size = w.heap.size + 1 := by simp
  rw [e] at h
  exact h
 have HW := Lib.hid hw2
 have HX : Hid (∀ wX, Below w2.heap.size w2 wX → Box wX w.heap.size (msgC m a)) := fun wX h => bx.below h bx.1
 have HY : Hid (∀ wX, Below w2.heap.size w2 wX → Box wX (w.heap.size + 1) (msgC m' a')) := fun wX h => by_.below h by_.1
 have HI : Hid (∀ wX, Below w2.heap.size w2 wX → MsgIn wX m a) := fun wX h => (hi.below hb2).below h
 have HI' : Hid (∀ wX, Below w2.heap.size w2 wX → MsgIn wX m' a') := fun wX h => (hi'.below hb2).below h
 have HF := Lib.hid hf
 have HF' := Lib.hid hf'
 have HE := Lib.hid ((msg_eq m m').symm.trans h)
 clear hw2 bx by_ hi hi' hf hf' h
 unfold msgV
 by_cases g0 : ¬ (m.k = m'.k)
 ·have HV : Hid (b = false) := by show b = false; rw [← HE.out]; simp [g0]
  have j0 : (m.k == m'.k) = false := by simp [g0]
  clear g0
  go_enter Tryz.func57, Tryz.ntmps57
  go_wp2_with fail
  rw [← HW.out]
  have x0 := ((HX.out _ (Below.refl _ _)).2 0 _ rfl).1
  have y0 := ((HY.out _ (Below.refl _ _)).2 0 _ rfl).1
  go_wp2_with fail
  go_ret
  exact ⟨ret_bool HV.out.symm, hb2⟩
 by_cases g1 : ¬ (m.f = m'.f)
 ·have HV : Hid (b = false) := by show b = false; rw [← HE.out]; simp [g1]
  have j0 : (m.k == m'.k) = true := by simp [Decidable.not_not.1 g0]
  have j1 : (m.f == m'.f) = false := by simp [g1]
  clear g0 g1
  go_enter Tryz.func57, Tryz.ntmps57
  go_wp2_with fail
  rw [← HW.out]
  have x0 := ((HX.out _ (Below.refl _ _)).2 0 _ rfl).1
  have y0 := ((HY.out _ (Below.refl _ _)).2 0 _ rfl).1
  have x1 := ((HX.out _ (Below.refl _ _)).2 1 _ rfl).1
  have y1 := ((HY.out _ (Below.refl _ _)).2 1 _ rfl).1
  go_wp2_with fail
  go_ret
  exact ⟨ret_bool HV.out.symm, hb2⟩
 by_cases g2 : ¬ (m.t = m'.t)
 ·have HV : Hid (b = false) := by show b = false; rw [← HE.out]; simp [g2]
  have j0 : (m.k == m'.k) = true := by simp [Decidable.not_not.1 g0]
  have j1 : (m.f == m'.f) = true := by simp [Decidable.not_not.1 g1]
  have j2 : (m.t == m'.t) = false := by simp [g2]
  clear g0 g1 g2
  go_enter Tryz.func57, Tryz.ntmps57
  go_wp2_with fail
  rw [← HW.out]
  have x0 := ((HX.out _ (Below.refl _ _)).2 0 _ rfl).1
  have y0 := ((HY.out _ (Below.refl _ _)).2 0 _ rfl).1
  have x1 := ((HX.out _ (Below.refl _ _)).2 1 _ rfl).1
  have y1 := ((HY.out _ (Below.refl _ _)).2 1 _ rfl).1
  have x2 := ((HX.out _ (Below.refl _ _)).2 2 _ rfl).1
  have y2 := ((HY.out _ (Below.refl _ _)).2 2 _ rfl).1
  go_wp2_with fail
  go_ret
  exact ⟨ret_bool HV.out.symm, hb2⟩
 by_cases g3 : ¬ (m.d = m'.d)
 ·have HV : Hid (b = false) := by show b = false; rw [← HE.out]; simp [g3]
  have j0 : (m.k == m'.k) = true := by simp [Decidable.not_not.1 g0]
  have j1 : (m.f == m'.f) = true := by simp [Decidable.not_not.1 g1]
  have j2 : (m.t == m'.t) = true := by simp [Decidable.not_not.1 g2]
  have j3 : (m.d == m'.d) = false := by simp [g3]
  clear g0 g1 g2 g3
  go_enter Tryz.func57, Tryz.ntmps57
  go_wp2_with fail
  rw [← HW.out]
  have x0 := ((HX.out _ (Below.refl _ _)).2 0 _ rfl).1
  have y0 := ((HY.out _ (Below.refl _ _)).2 0 _ rfl).1
  have x1 := ((HX.out _ (Below.refl _ _)).2 1 _ rfl).1
  have y1 := ((HY.out _ (Below.refl _ _)).2 1 _ rfl).1
  have x2 := ((HX.out _ (Below.refl _ _)).2 2 _ rfl).1
  have y2 := ((HY.out _ (Below.refl _ _)).2 2 _ rfl).1
  have x3 := ((HX.out _ (Below.refl _ _)).2 3 _ rfl).1
  have y3 := ((HY.out _ (Below.refl _ _)).2 3 _ rfl).1
  go_wp2_with fail
  go_ret
  exact ⟨ret_bool HV.out.symm, hb2⟩
 have g0 := Decidable.not_not.1 g0
 have g1 := Decidable.not_not.1 g1
 have g2 := Decidable.not_not.1 g2
 have g3 := Decidable.not_not.1 g3
 have j0 : (m.k == m'.k) = true := by simp [g0]
 have j1 : (m.f == m'.f) = true := by simp [g1]
 have j2 : (m.t == m'.t) = true := by simp [g2]
 have j3 : (m.d == m'.d) = true := by simp [g3]
 rw [decide_eq_true g0, decide_eq_true g1, decide_eq_true g2, decide_eq_true g3, Bool.true_and, Bool.true_and, Bool.true_and, Bool.true_and] at HE
 clear g0 g1 g2 g3
 cases hbat : eqBatM m.ba m.bn m.L m'.ba m'.bn m'.L with
 | false =>
  have HV : Hid (b = false) := by show b = false; rw [← HE.out, hbat]; rfl
  have Hbat := Lib.hid hbat
  clear hbat
  go_enter Tryz.func57, Tryz.ntmps57
  go_wp2_with fail
  rw [← HW.out]
  have x0 := ((HX.out _ (Below.refl _ _)).2 0 _ rfl).1
  have y0 := ((HY.out _ (Below.refl _ _)).2 0 _ rfl).1
  have x1 := ((HX.out _ (Below.refl _ _)).2 1 _ rfl).1
  have y1 := ((HY.out _ (Below.refl _ _)).2 1 _ rfl).1
  have x2 := ((HX.out _ (Below.refl _ _)).2 2 _ rfl).1
  have y2 := ((HY.out _ (Below.refl _ _)).2 2 _ rfl).1
  have x3 := ((HX.out _ (Below.refl _ _)).2 3 _ rfl).1
  have y3 := ((HY.out _ (Below.refl _ _)).2 3 _ rfl).1
  have x4 := ((HX.out _ (Below.refl _ _)).2 4 _ rfl).1
  have y4 := ((HY.out _ (Below.refl _ _)).2 4 _ rfl).1
  have x5 := ((HX.out _ (Below.refl _ _)).2 5 _ rfl).1
  have y5 := ((HY.out _ (Below.refl _ _)).2 5 _ rfl).1
  have x6 := ((HX.out _ (Below.refl _ _)).2 6 _ rfl).1
  have y6 := ((HY.out _ (Below.refl _ _)).2 6 _ rfl).1
  go_wp2_with fail
  have qi := HI.out _ (Below.refl _ _)
  have qj := HI'.out _ (Below.refl _ _)
  refine (reqBat_is false m.ba m.bn a.AL a.cL a.nL m.L m'.ba m'.bn a'.AL a'.cL a'.nL m'.L _ Hbat.out qi.zL qi.rL (by have := HF.out.sL; omega) qj.zL qj.rL (by have := HF'.out.sL; omega)).mono ?_
  rintro e v0 ⟨rfl, hv0⟩
  clear qi qj
  have hx0 : Below w2.heap.size w2 v0 := hv0
  go_wp2_with fail
  go_ret
  exact ⟨ret_bool HV.out.symm, hb2.trans ((hx0).mono hb2.size)⟩
 | true =>
  rw [hbat, Bool.true_and] at HE
  have Hbat := Lib.hid hbat
  clear hbat
  cases hhdr : eqHdr m.ha m.hr m.hB m.hP m'.ha m'.hr m'.hB m'.hP with
  | false =>
   have HV : Hid (b = false) := by show b = false; rw [← HE.out, hhdr]; rfl
   have Hhdr := Lib.hid hhdr
   clear hhdr
   go_enter Tryz.func57, Tryz.ntmps57
   go_wp2_with fail
   rw [← HW.out]
   have x0 := ((HX.out _ (Below.refl _ _)).2 0 _ rfl).1
   have y0 := ((HY.out _ (Below.refl _ _)).2 0 _ rfl).1
   have x1 := ((HX.out _ (Below.refl _ _)).2 1 _ rfl).1
   have y1 := ((HY.out _ (Below.refl _ _)).2 1 _ rfl).1
   have x2 := ((HX.out _ (Below.refl _ _)).2 2 _ rfl).1
   have y2 := ((HY.out _ (Below.refl _ _)).2 2 _ rfl).1
   have x3 := ((HX.out _ (Below.refl _ _)).2 3 _ rfl).1
   have y3 := ((HY.out _ (Below.refl _ _)).2 3 _ rfl).1
   have x4 := ((HX.out _ (Below.refl _ _)).2 4 _ rfl).1
   have y4 := ((HY.out _ (Below.refl _ _)).2 4 _ rfl).1
   have x5 := ((HX.out _ (Below.refl _ _)).2 5 _ rfl).1
   have y5 := ((HY.out _ (Below.refl _ _)).2 5 _ rfl).1
   have x6 := ((HX.out _ (Below.refl _ _)).2 6 _ rfl).1
   have y6 := ((HY.out _ (Below.refl _ _)).2 6 _ rfl).1
   go_wp2_with fail
   have qi := HI.out _ (Below.refl _ _)
   have qj := HI'.out _ (Below.refl _ _)
   refine (reqBat_is true m.ba m.bn a.AL a.cL a.nL m.L m'.ba m'.bn a'.AL a'.cL a'.nL m'.L _ Hbat.out qi.zL qi.rL (by have := HF.out.sL; omega) qj.zL qj.rL (by have := HF'.out.sL; omega)).mono ?_
   rintro e v0 ⟨rfl, hv0⟩
   clear qi qj
   have hx0 : Below w2.heap.size w2 v0 := hv0
   have x7 := ((HX.out _ hx0).2 7 _ rfl).1
   have y7 := ((HY.out _ hx0).2 7 _ rfl).1
   have x8 := ((HX.out _ hx0).2 8 _ rfl).1
   have y8 := ((HY.out _ hx0).2 8 _ rfl).1
   have x9 := ((HX.out _ hx0).2 9 _ rfl).1
   have y9 := ((HY.out _ hx0).2 9 _ rfl).1
   have x10 := ((HX.out _ hx0).2 10 _ rfl).1
   have y10 := ((HY.out _ hx0).2 10 _ rfl).1
   go_wp2_with fail
   have qi := HI.out _ hx0
   have qj := HI'.out _ hx0
   refine (reqHdr_is false m.ha m.hr a.AhB a.chB a.nhB m.hB a.AhP a.chP a.nhP m.hP m'.ha m'.hr a'.AhB a'.chB a'.nhB m'.hB a'.AhP a'.chP a'.nhP m'.hP _ Hhdr.out qi.zhB qi.rhB (by have := HF.out.shB; omega) qi.zhP qi.rhP (by have := HF.out.shP; omega) qj.zhB qj.rhB (by have := HF'.out.shB; omega) qj.zhP qj.rhP (by have := HF'.out.shP; omega)).mono ?_
   rintro e v1 ⟨rfl, hv1⟩
   clear qi qj
   have hx1 : Below w2.heap.size w2 v1 := (hx0).trans (hv1.mono (hx0).size)
   go_wp2_with fail
   go_ret
   exact ⟨ret_bool HV.out.symm, hb2.trans ((hx1).mono hb2.size)⟩
  | true =>
   rw [hhdr, Bool.true_and] at HE
   have Hhdr := Lib.hid hhdr
   clear hhdr
   cases hcer : eqCer m.ca m.cr m.cB m.cP m.cd m.cS m'.ca m'.cr m'.cB m'.cP m'.cd m'.cS with
   | false =>
    have HV : Hid (b = false) := by show b = false; rw [← HE.out, hcer]; rfl
    have Hcer := Lib.hid hcer
    clear hcer
    go_enter Tryz.func57, Tryz.ntmps57
    go_wp2_with fail
    rw [← HW.out]
    have x0 := ((HX.out _ (Below.refl _ _)).2 0 _ rfl).1
    have y0 := ((HY.out _ (Below.refl _ _)).2 0 _ rfl).1
    have x1 := ((HX.out _ (Below.refl _ _)).2 1 _ rfl).1
    have y1 := ((HY.out _ (Below.refl _ _)).2 1 _ rfl).1
    have x2 := ((HX.out _ (Below.refl _ _)).2 2 _ rfl).1
    have y2 := ((HY.out _ (Below.refl _ _)).2 2 _ rfl).1
    have x3 := ((HX.out _ (Below.refl _ _)).2 3 _ rfl).1
    have y3 := ((HY.out _ (Below.refl _ _)).2 3 _ rfl).1
    have x4 := ((HX.out _ (Below.refl _ _)).2 4 _ rfl).1
    have y4 := ((HY.out _ (Below.refl _ _)).2 4 _ rfl).1
    have x5 := ((HX.out _ (Below.refl _ _)).2 5 _ rfl).1
    have y5 := ((HY.out _ (Below.refl _ _)).2 5 _ rfl).1
    have x6 := ((HX.out _ (Below.refl _ _)).2 6 _ rfl).1
    have y6 := ((HY.out _ (Below.refl _ _)).2 6 _ rfl).1
    go_wp2_with fail
    have qi := HI.out _ (Below.refl _ _)
    have qj := HI'.out _ (Below.refl _ _)
    refine (reqBat_is true m.ba m.bn a.AL a.cL a.nL m.L m'.ba m'.bn a'.AL a'.cL a'.nL m'.L _ Hbat.out qi.zL qi.rL (by have := HF.out.sL; omega) qj.zL qj.rL (by have := HF'.out.sL; omega)).mono ?_
    rintro e v0 ⟨rfl, hv0⟩
    clear qi qj
    have hx0 : Below w2.heap.size w2 v0 := hv0
    have x7 := ((HX.out _ hx0).2 7 _ rfl).1
    have y7 := ((HY.out _ hx0).2 7 _ rfl).1
    have x8 := ((HX.out _ hx0).2 8 _ rfl).1
    have y8 := ((HY.out _ hx0).2 8 _ rfl).1
    have x9 := ((HX.out _ hx0).2 9 _ rfl).1
    have y9 := ((HY.out _ hx0).2 9 _ rfl).1
    have x10 := ((HX.out _ hx0).2 10 _ rfl).1
    have y10 := ((HY.out _ hx0).2 10 _ rfl).1
    go_wp2_with fail
    have qi := HI.out _ hx0
    have qj := HI'.out _ hx0
    refine (reqHdr_is true m.ha m.hr a.AhB a.chB a.nhB m.hB a.AhP a.chP a.nhP m.hP m'.ha m'.hr a'.AhB a'.chB a'.nhB m'.hB a'.AhP a'.chP a'.nhP m'.hP _ Hhdr.out qi.zhB qi.rhB (by have := HF.out.shB; omega) qi.zhP qi.rhP (by have := HF.out.shP; omega) qj.zhB qj.rhB (by have := HF'.out.shB; omega) qj.zhP qj.rhP (by have := HF'.out.shP; omega)).mono ?_
    rintro e v1 ⟨rfl, hv1⟩
    clear qi qj
    have hx1 : Below w2.heap.size w2 v1 := (hx0).trans (hv1.mono (hx0).size)
    have x11 := ((HX.out _ hx1).2 11 _ rfl).1
    have y11 := ((HY.out _ hx1).2 11 _ rfl).1
    have x12 := ((HX.out _ hx1).2 12 _ rfl).1
    have y12 := ((HY.out _ hx1).2 12 _ rfl).1
    have x13 := ((HX.out _ hx1).2 13 _ rfl).1
    have y13 := ((HY.out _ hx1).2 13 _ rfl).1
    have x14 := ((HX.out _ hx1).2 14 _ rfl).1
    have y14 := ((HY.out _ hx1).2 14 _ rfl).1
    have x15 := ((HX.out _ hx1).2 15 _ rfl).1
    have y15 := ((HY.out _ hx1).2 15 _ rfl).1
    have x16 := ((HX.out _ hx1).2 16 _ rfl).1
    have y16 := ((HY.out _ hx1).2 16 _ rfl).1
    go_wp2_with fail
    have qi := HI.out _ hx1
    have qj := HI'.out _ hx1
    refine (reqCer_is false m.ca m.cr a.AcB a.ccB a.ncB m.cB a.AcP a.ccP a.ncP m.cP m.cd a.AcS a.ccS a.ncS m.cS m'.ca m'.cr a'.AcB a'.ccB a'.ncB m'.cB a'.AcP a'.ccP a'.ncP m'.cP m'.cd a'.AcS a'.ccS a'.ncS m'.cS _ Hcer.out qi.zcB qi.rcB (by have := HF.out.scB; omega) qi.zcP qi.rcP (by have := HF.out.scP; omega) qi.zcS qi.rcS (by have := HF.out.scS; omega) qj.zcB qj.rcB (by have := HF'.out.scB; omega) qj.zcP qj.rcP (by have := HF'.out.scP; omega) qj.zcS qj.rcS (by have := HF'.out.scS; omega)).mono ?_
    rintro e v2 ⟨rfl, hv2⟩
    clear qi qj
    have hx2 : Below w2.heap.size w2 v2 := (hx1).trans (hv2.mono (hx1).size)
    go_wp2_with fail
    go_ret
    exact ⟨ret_bool HV.out.symm, hb2.trans ((hx2).mono hb2.size)⟩
   | true =>
    rw [hcer, Bool.true_and] at HE
    have Hcer := Lib.hid hcer
    clear hcer
    have HVD : Hid (decide (m.D = m'.D) = b) := HE.out
    go_enter Tryz.func57, Tryz.ntmps57
    go_wp2_with fail
    rw [← HW.out]
    have x0 := ((HX.out _ (Below.refl _ _)).2 0 _ rfl).1
    have y0 := ((HY.out _ (Below.refl _ _)).2 0 _ rfl).1
    have x1 := ((HX.out _ (Below.refl _ _)).2 1 _ rfl).1
    have y1 := ((HY.out _ (Below.refl _ _)).2 1 _ rfl).1
    have x2 := ((HX.out _ (Below.refl _ _)).2 2 _ rfl).1
    have y2 := ((HY.out _ (Below.refl _ _)).2 2 _ rfl).1
    have x3 := ((HX.out _ (Below.refl _ _)).2 3 _ rfl).1
    have y3 := ((HY.out _ (Below.refl _ _)).2 3 _ rfl).1
    have x4 := ((HX.out _ (Below.refl _ _)).2 4 _ rfl).1
    have y4 := ((HY.out _ (Below.refl _ _)).2 4 _ rfl).1
    have x5 := ((HX.out _ (Below.refl _ _)).2 5 _ rfl).1
    have y5 := ((HY.out _ (Below.refl _ _)).2 5 _ rfl).1
    have x6 := ((HX.out _ (Below.refl _ _)).2 6 _ rfl).1
    have y6 := ((HY.out _ (Below.refl _ _)).2 6 _ rfl).1
    go_wp2_with fail
    have qi := HI.out _ (Below.refl _ _)
    have qj := HI'.out _ (Below.refl _ _)
    refine (reqBat_is true m.ba m.bn a.AL a.cL a.nL m.L m'.ba m'.bn a'.AL a'.cL a'.nL m'.L _ Hbat.out qi.zL qi.rL (by have := HF.out.sL; omega) qj.zL qj.rL (by have := HF'.out.sL; omega)).mono ?_
    rintro e v0 ⟨rfl, hv0⟩
    clear qi qj
    have hx0 : Below w2.heap.size w2 v0 := hv0
    have x7 := ((HX.out _ hx0).2 7 _ rfl).1
    have y7 := ((HY.out _ hx0).2 7 _ rfl).1
    have x8 := ((HX.out _ hx0).2 8 _ rfl).1
    have y8 := ((HY.out _ hx0).2 8 _ rfl).1
    have x9 := ((HX.out _ hx0).2 9 _ rfl).1
    have y9 := ((HY.out _ hx0).2 9 _ rfl).1
    have x10 := ((HX.out _ hx0).2 10 _ rfl).1
    have y10 := ((HY.out _ hx0).2 10 _ rfl).1
    go_wp2_with fail
    have qi := HI.out _ hx0
    have qj := HI'.out _ hx0
    refine (reqHdr_is true m.ha m.hr a.AhB a.chB a.nhB m.hB a.AhP a.chP a.nhP m.hP m'.ha m'.hr a'.AhB a'.chB a'.nhB m'.hB a'.AhP a'.chP a'.nhP m'.hP _ Hhdr.out qi.zhB qi.rhB (by have := HF.out.shB; omega) qi.zhP qi.rhP (by have := HF.out.shP; omega) qj.zhB qj.rhB (by have := HF'.out.shB; omega) qj.zhP qj.rhP (by have := HF'.out.shP; omega)).mono ?_
    rintro e v1 ⟨rfl, hv1⟩
    clear qi qj
    have hx1 : Below w2.heap.size w2 v1 := (hx0).trans (hv1.mono (hx0).size)
    have x11 := ((HX.out _ hx1).2 11 _ rfl).1
    have y11 := ((HY.out _ hx1).2 11 _ rfl).1
    have x12 := ((HX.out _ hx1).2 12 _ rfl).1
    have y12 := ((HY.out _ hx1).2 12 _ rfl).1
    have x13 := ((HX.out _ hx1).2 13 _ rfl).1
    have y13 := ((HY.out _ hx1).2 13 _ rfl).1
    have x14 := ((HX.out _ hx1).2 14 _ rfl).1
    have y14 := ((HY.out _ hx1).2 14 _ rfl).1
    have x15 := ((HX.out _ hx1).2 15 _ rfl).1
    have y15 := ((HY.out _ hx1).2 15 _ rfl).1
    have x16 := ((HX.out _ hx1).2 16 _ rfl).1
    have y16 := ((HY.out _ hx1).2 16 _ rfl).1
    go_wp2_with fail
    have qi := HI.out _ hx1
    have qj := HI'.out _ hx1
    refine (reqCer_is true m.ca m.cr a.AcB a.ccB a.ncB m.cB a.AcP a.ccP a.ncP m.cP m.cd a.AcS a.ccS a.ncS m.cS m'.ca m'.cr a'.AcB a'.ccB a'.ncB m'.cB a'.AcP a'.ccP a'.ncP m'.cP m'.cd a'.AcS a'.ccS a'.ncS m'.cS _ Hcer.out qi.zcB qi.rcB (by have := HF.out.scB; omega) qi.zcP qi.rcP (by have := HF.out.scP; omega) qi.zcS qi.rcS (by have := HF.out.scS; omega) qj.zcB qj.rcB (by have := HF'.out.scB; omega) qj.zcP qj.rcP (by have := HF'.out.scP; omega) qj.zcS qj.rcS (by have := HF'.out.scS; omega)).mono ?_
    rintro e v2 ⟨rfl, hv2⟩
    clear qi qj
    have hx2 : Below w2.heap.size w2 v2 := (hx1).trans (hv2.mono (hx1).size)
    have x17 := ((HX.out _ hx2).2 17 _ rfl).1
    have y17 := ((HY.out _ hx2).2 17 _ rfl).1
    go_wp2_with fail
    have qi := HI.out _ hx2
    have qj := HI'.out _ hx2
    refine (eqNumbers_any a.AD a'.AD a.cD a'.cD a.nD a'.nD m.D m'.D _ qi.zD qj.zD qi.rD qj.rD (by have := HF.out.sD; omega) (by have := HF'.out.sD; omega)).mono ?_
    rintro e wd ⟨rfl, dD, rfl⟩
    rw [HVD.out]
    go_wp2_with fail
    go_ret
    exact ⟨rfl, below_n (hb2.trans ((hx2).mono hb2.size)) _⟩

end Go.Proofs.YteepobghdpnabaaGreat
