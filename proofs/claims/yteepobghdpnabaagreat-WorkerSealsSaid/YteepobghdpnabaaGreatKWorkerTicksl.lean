/-
  The page's copies of waits, held batches, workers.
-/
import Derived.Test.YteepobghdpnabaaGreatKWorkerTicksg
import Derived.Test.YteepobghdpnabaaGreatKWorkerTicksk
import Derived.Test.YteepobghdpnabaaGreatKWorkerTicksf
import Derived.Test.YteepobghdpnabaaGreatKWorkerTicksa
namespace Go.Proofs.YteepobghdpnabaaGreat
open Go.RowKit

section
variable {α : Type} {K : Kd α} {w w1 w2 : World} {a a' o : Ad} {ms : List (α × Ad)} {B : Nat}
/-- one more behind a row: its list was made ahead of that -/
theorem RowOwn.push (h : RowOwn K B w a ms) (hb : Below w.heap.size w w1) {x : α} (ho : w1.ownsRow w.heap.size K.e2 K.s2 o.v o.n (K.bd x)) (hl : K.len x = o.n) (hB : B ≤ w.heap.size) {b : Obj} (hg : (w1.alloc b).grownBy w2 a.v.ownBlock)
    (hr : w2.ownsRow B K.e K.s a'.v a'.n (cellsK K ms ++ K.cells x o.v)) (hn : a'.n = a.n + 1) : RowOwn K B w2 a' (ms ++ [(x, o)]) := by
  have hT : Touch (fun k => a.v.ownBlock = some k) w1 w2 := ((Touch.refl (fun k => a.v.ownBlock = some k) w1).alloc b).on (Touch.grown hg fun k hk => hk)
  have hins := h.ins (x := x) (o := o) (i := ms.length) (a' := a') hb ho hl hB hT (by
    rw [List.take_of_length_le (by rw [cellsK_length]; exact Nat.le_refl _), List.drop_of_length_le (by rw [cellsK_length]; exact Nat.le_refl _), List.append_nil]
    exact hr) hn (Nat.le_refl _)
  rw [insAt, List.take_length, List.drop_length] at hins
  exact hins
end
def CopiedTo (e2 : TypeId) (s2 : Nat) (B n : Nat) (xs : List Value) (f : Value → Value) (w : World) (e : Ending) (w' : World) : Prop := ∃ o' : Ad, e = .returned (f o'.v) ∧ o'.n = n ∧ w'.ownsRow B e2 s2 o'.v n xs ∧ Below B w w'

def CopiesTo {α : Type} (K : Kd α) (ms : List (α × Ad)) (w : World) (e : Ending) (w' : World) : Prop := ∃ (a' : Ad) (ms' : List (α × Ad)), e = .returned a'.v ∧ RowOwn K w.heap.size w' a' ms' ∧ ms'.map Prod.fst = ms.map Prod.fst ∧ Below w.heap.size w w'
set_option maxHeartbeats 4000000 in
theorem rcopyWait_any (d : Int) (o : Ad) (S : List Int) (w : World) (h : SlIn w o S.length (i64s S)) (hn : S.length ≤ 1000000) :
    Calls Tryz.prog 72 #[.agg #[.int .i64 d, o.v]] w (CopiedTo 3 1 w.heap.size S.length (i64s S) (fun v => .agg #[.int .i64 d, v]) w) := by
  obtain ⟨A, n, c⟩ := o
  have hz : S.length = n := h.len
  have HI := Lib.hid h
  have HC : Hid (n ≤ c) := h.cap
  have HZ := Lib.hid hz
  unfold Ad.v
  clear h hz
  go_enter Tryz.func72, Tryz.ntmps72
  go_wp2_with fail
  refine (copyNumbers_any A c n S _ HZ.out (((HI.out.rd.alloc _).alloc _).alloc _) HC.out (by have := HZ.out; omega)).mono ?_
  rintro e w1 ⟨v, rfl, hob, hb⟩
  obtain ⟨A', c', rfl, hc', hm', _, _, _⟩ := own_val hob
  obtain ⟨hcc, hff⟩ := bcellH hb
  have hz : w.heap.size + 1 + 1 < w1.heap.size := by have := hb.size; simp at this; omega
  have hz1 : w.heap.size + 1 < w1.heap.size := by omega
  have hb3 : Below w.heap.size w w1 := ((((Below.refl _ _).alloc (Nat.le_refl _) _).alloc (by simp) _).alloc (by simp; omega) _).trans (hb.mono (by simp; omega))
  have HOB : Hid (w1.ownsRow (w.heap.size + 1 + 1 + 1) 3 1 (.slice A' (i64s S).length c') (i64s S).length (i64s S)) := ownS_more hob (by simp)
  have HB3 := Lib.hid hb3
  clear hob hb hb3
  rw [i64s_length] at HOB ⊢
  go_wp2_with fail
  refine bodyPost_ret (v := .agg #[.int .i64 d, .slice A' S.length c']) (by simp [results, Tryz.results72, go_sem, hcc]) rfl ⟨⟨A', S.length, c'⟩, rfl, rfl, ?_, ?_⟩
  · exact ownS_more (B := w.heap.size + 1 + 1 + 1) (ownsRow_setCell_below (ownsRow_setCell_below (ownsRow_setCell_below HOB.out (by simp) _) (by simp) _) (by simp) _) (by omega)
  · exact ((HB3.out.setCell (by simp; omega) _).setCell (by simp) _).setCell (by simp) _

set_option maxHeartbeats 4000000 in
theorem rcopyHeld_any (d ba bn : Int) (o : Ad) (L : List TxD) (w : World) (h : SlIn w o L.length (txs L)) (hn : L.length ≤ 1000000) :
    Calls Tryz.prog 73 #[.agg #[.int .i64 d, .int .i64 ba, .int .i64 bn, o.v]] w (CopiedTo 40 4 w.heap.size L.length (txs L) (fun v => .agg #[.int .i64 d, .int .i64 ba, .int .i64 bn, v]) w) := by
  obtain ⟨A, n, c⟩ := o
  have hz : L.length = n := h.len
  have HI := Lib.hid h
  have HC : Hid (n ≤ c) := h.cap
  have HZ := Lib.hid hz
  unfold Ad.v
  clear h hz
  go_enter Tryz.func73, Tryz.ntmps73
  go_wp2_with fail
  refine (rcopyBat_any ba bn A c n L _ HZ.out (((HI.out.rd.alloc _).alloc _).alloc _) HC.out (by have := HZ.out; omega)).mono ?_
  rintro e w1 ⟨A', c', rfl, hob, -, -, -, hb⟩
  obtain ⟨hcc, hff⟩ := bcellH hb
  have hz : w.heap.size + 1 + 1 < w1.heap.size := by have := hb.size; simp at this; omega
  have hz1 : w.heap.size + 1 < w1.heap.size := by omega
  have hb3 : Below w.heap.size w w1 := ((((Below.refl _ _).alloc (Nat.le_refl _) _).alloc (by simp) _).alloc (by simp; omega) _).trans (hb.mono (by simp; omega))
  have HOB : Hid (w1.ownsRow (w.heap.size + 1 + 1 + 1) 40 4 (.slice A' n c') n (txs L)) := ownS_more hob (by simp)
  have HB3 := Lib.hid hb3
  clear hob hb hb3
  go_wp2_with fail
  refine bodyPost_ret (v := .agg #[.int .i64 d, .int .i64 ba, .int .i64 bn, .slice A' n c']) (by simp [results, Tryz.results73, go_sem, hcc]) rfl ⟨⟨A', n, c'⟩, rfl, HZ.out.symm, ?_, ?_⟩
  · rw [HZ.out]
    exact ownS_more (B := w.heap.size + 1 + 1 + 1) (ownsRow_setCell_below (ownsRow_setCell_below (ownsRow_setCell_below (ownsRow_setCell_below (ownsRow_setCell_below (ownsRow_setCell_below (ownsRow_setCell_below HOB.out (by simp) _) (by simp) _) (by simp) _) (by simp) _) (by simp) _) (by simp) _) (by simp) _) (by omega)
  · exact ((((((HB3.out.setCell (by simp; omega) _).setCell (by simp; omega) _).setCell (by simp; omega) _).setCell (by simp) _).setCell (by simp) _).setCell (by simp) _).setCell (by simp) _

set_option maxRecDepth 100000 in
set_option maxHeartbeats 8000000 in
theorem rcopyWaits_any (a : Ad) (ms : List (WtD × Ad)) (w : World) (h : RowIn KW w a ms) (hn : ms.length ≤ 1000000) (hs : ∀ x ∈ ms, KW.len x.1 ≤ 1000000) :
    Calls Tryz.prog 27 #[a.v] w (CopiesTo KW ms w) := by
  obtain ⟨A, n, c⟩ := a
  obtain ⟨i0, hi0, hz0, hz1, hz2⟩ := info_parts info_zwait
  have HI0 := Lib.hid hi0
  have HZ0 := Lib.hid hz0
  have HZ1 := Lib.hid hz1
  have HZ2 := Lib.hid hz2
  have hz : ms.length = n := h.row.len
  have HZ := Lib.hid hz
  have HR := Lib.hid h
  have HS := Lib.hid hs
  unfold Ad.v
  have hn2 : n ≤ 1000000 := by omega
  clear hz h hs hi0 hz0 hz1 hz2 hn
  go_enter Tryz.func27, Tryz.ntmps27
  go_wp2_with fail
  go_loopw [3, 4] (fun v i wr => ∃ (k : Nat) (o' : Ad) (ms' : List (WtD × Ad)), i = .int .i64 k ∧ v = .slice o'.A o'.n o'.c ∧ k ≤ n ∧ Hid (o'.n = k) ∧ Hid (ms'.map Prod.fst = (ms.map Prod.fst).take k) ∧ Hid (RowOwn KW w.heap.size wr o' ms') ∧ Below w.heap.size w wr) (fun _ i _ => n - (intOf i).toNat)
  case atStart => exact ⟨0, noAd, [], rfl, rfl, Nat.zero_le _, rfl, rfl, rowOwn_none _ _, Below.refl _ _⟩
  case round =>
    obtain ⟨k, o', ms', rfl, rfl, hk, HOK, HM, HO, hb⟩ := hrel
    have i0' : (0 : Int) ≤ (k : Int) := by omega
    by_cases hlt : k < n
    · have i1 : (k : Int) < (n : Int) := by omega
      obtain ⟨x, hx⟩ : ∃ x, ms[k]? = some x := ⟨ms[k]'(by rw [HZ.out]; exact hlt), by simp⟩
      obtain ⟨b, off, rfl, hbl, hcl⟩ := (HR.out.row.rd.below hb).open_ (by rw [cellsK_length, HZ.out]; show 0 < n * 2; omega)
      have hcell := fun j v hv => hcl (k * 2 + j) v (cellsK_at KW hx (j := j) (v := v) hv)
      have c0 : wr.cell? ⟨b, off + k * 2, none⟩ = some (.int .i64 x.1.d) := hcell 0 _ rfl
      have c1 : wr.cell? ⟨b, off + k * 2 + 1, none⟩ = some (.slice x.2.A x.2.n x.2.c) := by have := hcell 1 _ rfl; rw [← Nat.add_assoc] at this; exact this
      have hsub := (HR.out.sub x (List.mem_of_getElem? hx)).below hb
      have HSB := Lib.hid hsub
      have HXN : Hid (KW.len x.1 ≤ 1000000) := HS.out x (List.mem_of_getElem? hx)
      have HP1 : Hid ((ms.map Prod.fst).take (k + 1) = ms'.map Prod.fst ++ [x.1]) := by
        show _ = _
        rw [take_nxt (x := x.1) (by rw [List.getElem?_map, hx]; rfl), HM.out]
      have hwB := hb.size
      have hon : o'.n ≤ 1000000 := by have := HOK.out; omega
      clear hcell hcl hx hsub
      go_upto_region 5 with fail
      go_wp2_with (first
        | (go_at_call 72; refine (rcopyWait_any x.1.d x.2 x.1.S _ HSB.out HXN.out).mono ?_
           rintro e w4 ⟨⟨A4, n4, c4⟩, rfl, hn4, ho4, hb4⟩
           obtain rfl : n4 = x.1.S.length := hn4
           dsimp only [Ad.v]
           have HO4 := Lib.hid ho4
           have HB4 := Lib.hid hb4
           have hz4 := hb4.size)
        | (at_builtin; refine wpList_append_lies _ rfl _ _ 23 rfl w.heap.size KW.e i0 zwait 2 32 Tryz.underlying23 HI0.out HZ0.out HZ1.out HZ2.out rfl (by decide) (.slice o'.A o'.n o'.c) o'.n (cellsK KW ms') rfl (ownS_below HO.out.row (HB4.out.alloc hz4 _)) ⟨w4.heap.size, 0, none⟩ 1 1 (KW.cells x.1 (.slice A4 x.1.S.length c4)) rfl rfl (fun j y hj => by rw [Addr.add_lit, Nat.zero_add]; exact cells_new w4 (KW.cells x.1 (.slice A4 x.1.S.length c4)) KW.e j y hj) (KW.one x.1 _ rfl) (by decide) (by unfold maxLen; omega) (by have := HOK.out; omega) (by simp; omega) _ rfl ?_
           intro g' c' w5 q1 q2 q3 q4))
      have hpush := HO.out.push (x := x.1) (o := ⟨A4, x.1.S.length, c4⟩) (a' := ⟨some ⟨g', 0, none⟩, o'.n + 1, c'⟩) HB4.out HO4.out rfl hwB q2 q1 rfl
      have hb5 : Below w.heap.size w w5 := (hb.trans (HB4.out.mono hwB)).trans ((((Touch.refl (fun k => o'.v.ownBlock = some k) w4).alloc _).on (Touch.grown q2 fun k hk => hk)).below (fun j hj => (own_lt HO.out.row hj).2) (by omega))
      have HPU := Lib.hid hpush
      clear q1 q2 q3 q4 hpush
      go_wp2_with fail
      go_roundw
      case rel => exact ⟨k + 1, ⟨some ⟨g', 0, none⟩, o'.n + 1, c'⟩, ms' ++ [(x.1, ⟨A4, x.1.S.length, c4⟩)], by go_num, rfl, by omega, by show o'.n + 1 = _; rw [HOK.out], by show _ = _; rw [HP1.out, List.map_append]; rfl, HPU, hb5⟩
      case measure => simp [intOf]; omega
    · have i1 : ¬ ((k : Int) < (n : Int)) := by omega
      have HM2 : Hid (ms'.map Prod.fst = ms.map Prod.fst) := by
        have := HM.out
        rwa [List.take_of_length_le (by rw [List.length_map, HZ.out]; omega)] at this
      go_wp2_with fail
      go_ret
      exact ⟨o', ms', rfl, HO.out, HM2.out, hb⟩

set_option maxRecDepth 100000 in
set_option maxHeartbeats 8000000 in
theorem rcopyHelds_any (a : Ad) (ms : List (HlD × Ad)) (w : World) (h : RowIn KH w a ms) (hn : ms.length ≤ 1000000) (hs : ∀ x ∈ ms, KH.len x.1 ≤ 1000000) :
    Calls Tryz.prog 28 #[a.v] w (CopiesTo KH ms w) := by
  obtain ⟨A, n, c⟩ := a
  obtain ⟨i0, hi0, hz0, hz1, hz2⟩ := info_parts info_zheld
  have HI0 := Lib.hid hi0
  have HZ0 := Lib.hid hz0
  have HZ1 := Lib.hid hz1
  have HZ2 := Lib.hid hz2
  have hz : ms.length = n := h.row.len
  have HZ := Lib.hid hz
  have HR := Lib.hid h
  have HS := Lib.hid hs
  unfold Ad.v
  have hn2 : n ≤ 1000000 := by omega
  clear hz h hs hi0 hz0 hz1 hz2 hn
  go_enter Tryz.func28, Tryz.ntmps28
  go_wp2_with fail
  go_loopw [3, 4] (fun v i wr => ∃ (k : Nat) (o' : Ad) (ms' : List (HlD × Ad)), i = .int .i64 k ∧ v = .slice o'.A o'.n o'.c ∧ k ≤ n ∧ Hid (o'.n = k) ∧ Hid (ms'.map Prod.fst = (ms.map Prod.fst).take k) ∧ Hid (RowOwn KH w.heap.size wr o' ms') ∧ Below w.heap.size w wr) (fun _ i _ => n - (intOf i).toNat)
  case atStart => exact ⟨0, noAd, [], rfl, rfl, Nat.zero_le _, rfl, rfl, rowOwn_none _ _, Below.refl _ _⟩
  case round =>
    obtain ⟨k, o', ms', rfl, rfl, hk, HOK, HM, HO, hb⟩ := hrel
    have i0' : (0 : Int) ≤ (k : Int) := by omega
    by_cases hlt : k < n
    · have i1 : (k : Int) < (n : Int) := by omega
      obtain ⟨x, hx⟩ : ∃ x, ms[k]? = some x := ⟨ms[k]'(by rw [HZ.out]; exact hlt), by simp⟩
      obtain ⟨b, off, rfl, hbl, hcl⟩ := (HR.out.row.rd.below hb).open_ (by rw [cellsK_length, HZ.out]; show 0 < n * 4; omega)
      have hcell := fun j v hv => hcl (k * 4 + j) v (cellsK_at KH hx (j := j) (v := v) hv)
      have c0 : wr.cell? ⟨b, off + k * 4, none⟩ = some (.int .i64 x.1.d) := hcell 0 _ rfl
      have c1 : wr.cell? ⟨b, off + k * 4 + 1, none⟩ = some (.int .i64 x.1.a) := by have := hcell 1 _ rfl; rw [← Nat.add_assoc] at this; exact this
      have c2 : wr.cell? ⟨b, off + k * 4 + 2, none⟩ = some (.int .i64 x.1.n) := by have := hcell 2 _ rfl; rw [← Nat.add_assoc] at this; exact this
      have c3 : wr.cell? ⟨b, off + k * 4 + 3, none⟩ = some (.slice x.2.A x.2.n x.2.c) := by have := hcell 3 _ rfl; rw [← Nat.add_assoc] at this; exact this
      have hsub := (HR.out.sub x (List.mem_of_getElem? hx)).below hb
      have HSB := Lib.hid hsub
      have HXN : Hid (KH.len x.1 ≤ 1000000) := HS.out x (List.mem_of_getElem? hx)
      have HP1 : Hid ((ms.map Prod.fst).take (k + 1) = ms'.map Prod.fst ++ [x.1]) := by
        show _ = _
        rw [take_nxt (x := x.1) (by rw [List.getElem?_map, hx]; rfl), HM.out]
      have hwB := hb.size
      have hon : o'.n ≤ 1000000 := by have := HOK.out; omega
      clear hcell hcl hx hsub
      go_upto_region 5 with fail
      go_wp2_with (first
        | (go_at_call 73; refine (rcopyHeld_any x.1.d x.1.a x.1.n x.2 x.1.L _ HSB.out HXN.out).mono ?_
           rintro e w4 ⟨⟨A4, n4, c4⟩, rfl, hn4, ho4, hb4⟩
           obtain rfl : n4 = x.1.L.length := hn4
           dsimp only [Ad.v]
           have HO4 := Lib.hid ho4
           have HB4 := Lib.hid hb4
           have hz4 := hb4.size)
        | (at_builtin; refine wpList_append_lies _ rfl _ _ 24 rfl w.heap.size KH.e i0 zheld 4 48 Tryz.underlying24 HI0.out HZ0.out HZ1.out HZ2.out rfl (by decide) (.slice o'.A o'.n o'.c) o'.n (cellsK KH ms') rfl (ownS_below HO.out.row (HB4.out.alloc hz4 _)) ⟨w4.heap.size, 0, none⟩ 1 1 (KH.cells x.1 (.slice A4 x.1.L.length c4)) rfl rfl (fun j y hj => by rw [Addr.add_lit, Nat.zero_add]; exact cells_new w4 (KH.cells x.1 (.slice A4 x.1.L.length c4)) KH.e j y hj) (KH.one x.1 _ rfl) (by decide) (by unfold maxLen; omega) (by have := HOK.out; omega) (by simp; omega) _ rfl ?_
           intro g' c' w5 q1 q2 q3 q4))
      have hpush := HO.out.push (x := x.1) (o := ⟨A4, x.1.L.length, c4⟩) (a' := ⟨some ⟨g', 0, none⟩, o'.n + 1, c'⟩) HB4.out HO4.out rfl hwB q2 q1 rfl
      have hb5 : Below w.heap.size w w5 := (hb.trans (HB4.out.mono hwB)).trans ((((Touch.refl (fun k => o'.v.ownBlock = some k) w4).alloc _).on (Touch.grown q2 fun k hk => hk)).below (fun j hj => (own_lt HO.out.row hj).2) (by omega))
      have HPU := Lib.hid hpush
      clear q1 q2 q3 q4 hpush
      go_wp2_with fail
      go_roundw
      case rel => exact ⟨k + 1, ⟨some ⟨g', 0, none⟩, o'.n + 1, c'⟩, ms' ++ [(x.1, ⟨A4, x.1.L.length, c4⟩)], by go_num, rfl, by omega, by show o'.n + 1 = _; rw [HOK.out], by show _ = _; rw [HP1.out, List.map_append]; rfl, HPU, hb5⟩
      case measure => simp [intOf]; omega
    · have i1 : ¬ ((k : Int) < (n : Int)) := by omega
      have HM2 : Hid (ms'.map Prod.fst = ms.map Prod.fst) := by
        have := HM.out
        rwa [List.take_of_length_le (by rw [List.length_map, HZ.out]; omega)] at this
      go_wp2_with fail
      go_ret
      exact ⟨o', ms', rfl, HO.out, HM2.out, hb⟩

end Go.Proofs.YteepobghdpnabaaGreat
