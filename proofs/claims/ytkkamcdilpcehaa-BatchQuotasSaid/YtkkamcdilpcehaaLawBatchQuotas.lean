/-
  The walk of 'BatchQuotas', out of what it asks of package batch. 
-/
import Derived.Test.YtkkamcdilpcehaaBWakes
import Derived.Test.YtkkamcdilpcehaaPageParse
import Derived.Test.YtkkamcdilpcehaaBFour
namespace Go.Proofs.Ytkkamcdilpcehaa
open Go.RowKit

def zeros (n : Nat) : List Int := List.replicate n 0
def bigT : TxD := ⟨1099511627776, 1099511627776, strOfNums (zeros 16), strOfNums (zeros 32)⟩
def bigL (k : Nat) : List TxD := List.replicate k bigT
theorem big_ok : txB bigT = true := by decide +kernel
theorem bigs_ok : batB 16 1099511627776 (bigL 8) = true := by decide +kernel

def z16 : Obj := .cells #[.int .u8 0, .int .u8 0, .int .u8 0, .int .u8 0, .int .u8 0, .int .u8 0, .int .u8 0, .int .u8 0, .int .u8 0, .int .u8 0, .int .u8 0, .int .u8 0, .int .u8 0, .int .u8 0, .int .u8 0, .int .u8 0] 5
def z32 : Obj := .cells #[.int .u8 0, .int .u8 0, .int .u8 0, .int .u8 0, .int .u8 0, .int .u8 0, .int .u8 0, .int .u8 0, .int .u8 0, .int .u8 0, .int .u8 0, .int .u8 0, .int .u8 0, .int .u8 0, .int .u8 0, .int .u8 0, .int .u8 0, .int .u8 0, .int .u8 0, .int .u8 0, .int .u8 0, .int .u8 0, .int .u8 0, .int .u8 0, .int .u8 0, .int .u8 0, .int .u8 0, .int .u8 0, .int .u8 0, .int .u8 0, .int .u8 0, .int .u8 0] 5
theorem make_16 (w : World) : (Instr.makeSlice 27 (.int .i64 16) (.int .i64 16)).run Try.prog w = .ok (.slice (some ⟨w.heap.size, 0, none⟩) 16 16) (w.alloc z16) := by kernel_rfl
theorem make_32 (w : World) : (Instr.makeSlice 27 (.int .i64 32) (.int .i64 32)).run Try.prog w = .ok (.slice (some ⟨w.heap.size, 0, none⟩) 32 32) (w.alloc z32) := by kernel_rfl
theorem z_rd {w : World} {b n : Nat} {cs : Array Value} {T : TypeId} (h : w.heap[b]? = some (.cells cs T)) (hc : cs.toList = u8s (zeros n)) : Rd w (some ⟨b, 0, none⟩) (u8s (zeros n)) := fun _ => by
  refine ⟨b, 0, rfl, ?_, fun i v hv => ?_⟩
  · rcases Nat.lt_or_ge b w.heap.size with h' | h'
    · exact h'
    · rw [Array.getElem?_eq_none h'] at h
      cases h
  · rw [← hc] at hv
    simp only [World.cell?, Nat.zero_add, h]
    simpa using hv
/-- the object at a block -/
def At (w : World) (b : Nat) (o : Obj) : Prop := w.heap[b]? = some o
theorem at_alloc (w : World) (o o' : Obj) (b : Nat) : At (w.alloc o') b o = if b = w.heap.size then o' = o else At w b o := by
  unfold At
  rw [show (w.alloc o').heap = w.heap.push o' from rfl, Array.getElem?_push]
  split
  · simp
  · rfl
theorem at_drew (w : World) (o : Obj) (b : Nat) : At w.drew b o = At w b o := rfl
theorem cells_at {w : World} {b : Nat} {x0 x1 x2 x3 : Value} {T : TypeId} (h : At w b (.cells #[x0, x1, x2, x3] T)) : w.cell? ⟨b, 0, none⟩ = some x0 ∧ w.cell? ⟨b, 1, none⟩ = some x1 ∧ w.cell? ⟨b, 2, none⟩ = some x2 ∧ w.cell? ⟨b, 3, none⟩ = some x3 := by
  unfold At at h
  refine ⟨?_, ?_, ?_, ?_⟩
  all_goals
    simp only [World.cell?, h]
    rfl
theorem no_nine : batB 16 1099511627776 (bigL 9) = false := by decide +kernel
theorem no_none : batB 16 1099511627776 [] = false := by decide +kernel
theorem no_author : batB 17 1099511627776 (bigL 8) = false := by decide +kernel
theorem no_number : batB 16 1099511627777 (bigL 8) = false := by decide +kernel
theorem bigL_next (k : Nat) : txs (bigL k) ++ TxD.cells ⟨1099511627776, 1099511627776, bigT.k, bigT.v⟩ = txs (bigL (k + 1)) := by
  rw [bigL, bigL, List.replicate_succ', txs_append, txs_single]
  rfl
def badL : List TxD := [⟨1099511627777, 1099511627776, bigT.k, bigT.v⟩, ⟨1099511627776, 1099511627777, bigT.k, bigT.v⟩, ⟨1099511627776, 1099511627776, bigT.k ++ ⟨#[120]⟩, bigT.v⟩, ⟨1099511627776, 1099511627776, bigT.k, bigT.v ++ ⟨#[120]⟩⟩,
  ⟨1099511627776, 1099511627776, ⟨#[]⟩, bigT.v⟩, ⟨0, 1099511627776, bigT.k, bigT.v⟩, ⟨1099511627776, 0, bigT.k, bigT.v⟩]
theorem bad_no : ∀ j, j < 7 → ∃ t, badL[j]? = some t ∧ txB t = false ∧ batB 16 1099511627776 ((bigL 8).set j t) = false := by
  have h : ∀ j : Fin 7, (badL[j.val]?.map fun t => (txB t, batB 16 1099511627776 ((bigL 8).set j.val t))) = some (false, false) := by decide +kernel
  intro j hj
  have := h ⟨j, hj⟩
  cases hb : badL[j]? with
  | none => simp [hb] at this
  | some t =>
    simp only [hb, Option.map_some, Option.some.injEq, Prod.mk.injEq] at this
    exact ⟨t, rfl, this.1, this.2⟩
theorem txs_set : ∀ (L : List TxD) (j : Nat) (t : TxD), j < L.length →
    ((((txs L).set (j * 4) (.int .i64 t.s)).set (j * 4 + 1) (.int .i64 t.q)).set (j * 4 + 2) (.string t.k)).set (j * 4 + 3) (.string t.v) = txs (L.set j t)
  | [], _, _, h => by simp at h
  | x :: L, 0, t, _ => by simp [txs, TxD.cells]
  | x :: L, j + 1, t, h => by
    have ih := txs_set L j t (by simpa using h)
    have e : ∀ (y : TxD) (M : List TxD), txs (y :: M) = .int .i64 y.s :: .int .i64 y.q :: .string y.k :: .string y.v :: txs M := fun _ _ => rfl
    rw [List.set_cons_succ, e, e, ← ih, show (j + 1) * 4 = j * 4 + 1 + 1 + 1 + 1 by omega, show j * 4 + 1 + 1 + 1 + 1 + 1 = (j * 4 + 1) + 1 + 1 + 1 + 1 by omega, show j * 4 + 1 + 1 + 1 + 1 + 2 = (j * 4 + 2) + 1 + 1 + 1 + 1 by omega, show j * 4 + 1 + 1 + 1 + 1 + 3 = (j * 4 + 3) + 1 + 1 + 1 + 1 by omega]
    simp only [List.set_cons_succ]
theorem cell_far4 {w : World} {g h o a b c d : Nat} {x0 x1 x2 x3 v : Value} (hne : g ≠ h) (hc : w.cell? ⟨g, o, none⟩ = some v) :
    ((((w.setCell ⟨h, a, none⟩ x0).setCell ⟨h, b, none⟩ x1).setCell ⟨h, c, none⟩ x2).setCell ⟨h, d, none⟩ x3).cell? ⟨g, o, none⟩ = some v := by
  have hn : ∀ i, (⟨g, o, none⟩ : Addr) ≠ ⟨h, i, none⟩ := fun i e => hne (by cases e; rfl)
  rw [World.cell?_setCell_other _ _ _ _ (by simp), World.cell?_setCell_other _ _ _ _ (by simp), World.cell?_setCell_other _ _ _ _ (by simp), World.cell?_setCell_other _ _ _ _ (by simp), hc]
theorem some_at {l : List Value} {i : Nat} (h : i < l.length) : l[i]? = some (l[i]?.getD undef) := by simp [h]
theorem conv_16 (w : World) (b : Nat) (h : At w b z16) : (convert 27 9 (.slice (some ⟨b, 0, none⟩) 16 16)).run Try.prog w = .ok (.string bigT.k) w :=
  conv_rd w (zs := zeros 16) rfl (by decide) (z_rd h rfl) 27 5 9 Try.underlying27 Try.underlying5 Try.underlying9 16
theorem conv_32 (w : World) (b : Nat) (h : At w b z32) : (convert 27 9 (.slice (some ⟨b, 0, none⟩) 32 32)).run Try.prog w = .ok (.string bigT.v) w :=
  conv_rd w (zs := zeros 32) rfl (by decide) (z_rd h rfl) 27 5 9 Try.underlying27 Try.underlying5 Try.underlying9 32

set_option maxRecDepth 100000 in
set_option maxHeartbeats 8000000 in
theorem batchQuotas_walk (K : BContracts) (a : Option Addr) (len cap : Nat) (w : World) (ha : BAsks w a len cap) :
    Calls Try.prog 7 #[.slice a len cap] w fun e w' => e = .returned (.bool true) ∧ Below w.heap.size w w' := by
  obtain ⟨hl, hm, hi⟩ := ha
  clear hi
  go_enter Try.func7, Try.ntmps7
  go_upto_region 1 with fail
  go_cut [3] (fun p wx => ∃ g, p = .pointer (some ⟨g, 0, none⟩) ∧ w.heap.size ≤ g ∧ g < wx.heap.size ∧ Below w.heap.size w wx ∧ (wx.cell? ⟨g, 0, none⟩ = some (.int .i64 1099511627776) ∧ wx.cell? ⟨g, 1, none⟩ = some (.int .i64 1099511627776) ∧ wx.cell? ⟨g, 2, none⟩ = some (.string bigT.k) ∧ wx.cell? ⟨g, 3, none⟩ = some (.string bigT.v)))
  case first =>
    have m16 := make_16
    have m32 := make_32
    have v16 := conv_16
    have v32 := conv_32
    have n1 := at_alloc
    have n3 := at_drew
    have n4 : ∀ n : Nat, (n = n + 1 + 1) = False := fun n => by simp; omega
    go_region
    all_goals
      clear m16 m32 v16 v32 n1 n3 n4
      go_wp2_with fail
      go_meet
      refine ⟨_, rfl, by omega, (by first | (simp; done) | (simp; omega)), ((((Below.refl _ _).alloc (by simp) _).alloc (by simp; try omega) _).alloc (by simp; try omega) _).drew, cells_at (T := 34) ?_⟩
      first | (simp [at_alloc, at_drew]; done) | (simp [at_alloc, at_drew]; intros; omega)
  case rest =>
    obtain ⟨g, rfl, hg, hgl, hb1, hc⟩ := hcut
    have HC : Hid (∀ wX, Below wc.heap.size wc wX → wX.cell? ⟨g, 0, none⟩ = some (.int .i64 1099511627776) ∧ wX.cell? ⟨g, 1, none⟩ = some (.int .i64 1099511627776) ∧ wX.cell? ⟨g, 2, none⟩ = some (.string bigT.k) ∧ wX.cell? ⟨g, 3, none⟩ = some (.string bigT.v)) :=
      fun wX h => ⟨(h.cell (p := ⟨g, _, none⟩) hgl).trans hc.1, (h.cell (p := ⟨g, _, none⟩) hgl).trans hc.2.1, (h.cell (p := ⟨g, _, none⟩) hgl).trans hc.2.2.1, (h.cell (p := ⟨g, _, none⟩) hgl).trans hc.2.2.2⟩
    obtain ⟨wb, hwb⟩ : ∃ wb, wb = wc.alloc (.cells #[.int .i64 16, .int .i64 1099511627776, .slice none 0 0] 26) := ⟨_, rfl⟩
    obtain ⟨gb, hgb⟩ : ∃ gb, gb = wc.heap.size := ⟨_, rfl⟩
    have hbb : Below wc.heap.size wc wb := by rw [hwb]; exact (Below.refl _ _).alloc (Nat.le_refl _) _
    have hgbl : gb < wb.heap.size := by rw [hwb, hgb]; simp
    have hcells : (wb.cell? ⟨gb, 0, none⟩ = some (.int .i64 16) ∧ wb.cell? ⟨gb, 1, none⟩ = some (.int .i64 1099511627776) ∧ wb.cell? ⟨gb, 2, none⟩ = some (.slice none 0 0)) ∧ wb.frozen? ⟨gb, 2, none⟩ = false := by
      rw [hwb, hgb]
      refine ⟨⟨?_, ?_, ?_⟩, ?_⟩
      all_goals first | (rw [World.cell?_alloc_at _ _ _ _ rfl]; rfl) | (rw [World.frozen?, heap_alloc_new]; simp)
    have HCE := Lib.hid hcells
    clear hcells hc
    go_upto_region 3 with fail
    rw [← hwb, ← hgb]
    have HGB := Lib.hid hgb
    clear hwb hgb
    go_wp2_with fail
    go_loopw [5] (fun i wz => ∃ (k : Nat) (v : Value), i = .int .i64 k ∧ k ≤ 8 ∧ wz.cell? ⟨gb, 0, none⟩ = some (.int .i64 16) ∧ wz.cell? ⟨gb, 1, none⟩ = some (.int .i64 1099511627776) ∧ wz.cell? ⟨gb, 2, none⟩ = some v ∧ wz.frozen? ⟨gb, 2, none⟩ = false ∧ wz.ownsRow (gb + 1) 34 4 v k (txs (bigL k)) ∧ Below wc.heap.size wc wz) (fun i _ => 8 - (intOf i).toNat)
    case atStart => exact ⟨0, _, rfl, by omega, HCE.out.1.1, HCE.out.1.2.1, HCE.out.1.2.2, HCE.out.2, World.ownsRow_nil _ _ _ _, hbb⟩
    case round =>
      obtain ⟨k, v, rfl, hk, d0, d1, d2, df, hown, hbz⟩ := hrel
      clear hbb hgbl
      have hgl' : gb < wr.heap.size := World.block_lt_of_cell? wr _ d0
      obtain ⟨c0, c1, c2, c3⟩ := HC.out _ hbz
      by_cases hlt : k < 8
      · have i1 : (k : Int) < 8 := by omega
        go_wp2_with (at_builtin; refine wpList_app_elem _ rfl _ _ 24 rfl (gb + 1) 34 _ 4 48 Try.underlying24 info_tx rfl (by decide) (by decide) _ k _ rfl (hown.alloc _) wr.heap.size (TxD.cells ⟨1099511627776, 1099511627776, bigT.k, bigT.v⟩) rfl rfl (cells_new _ _ _) (cells_one _) (by omega) (by simp; omega) ?_)
        intro v' w1 hown1 hb2
        have hown2 := ownS_conv (n' := k + 1) hown1 (ys := txs (bigL (k + 1))) (bigL_next k) rfl
        have r0 := far_g hb2 ((Below.refl _ _).alloc (Nat.le_refl _) _) hgl' d0
        have r1 := far_g hb2 ((Below.refl _ _).alloc (Nat.le_refl _) _) hgl' d1
        have r2 := far_g hb2 ((Below.refl _ _).alloc (Nat.le_refl _) _) hgl' d2
        have rf := far_f hb2 ((Below.refl _ _).alloc (Nat.le_refl _) _) hgl' df
        have hbz9 := far_b hb2 ((Below.refl _ _).alloc (Nat.le_refl _) _) hbz hbz.size (by have := HGB.out; omega)
        clear hown1 hown
        obtain ⟨A9, c9, rfl, _, _, _, _, _⟩ := ownS_slice hown2
        go_wp2
        go_roundw
        case rel => exact ⟨k + 1, _, by go_num, by omega, (World.cell?_setCell_other _ _ _ _ (by simp)).trans r0, (World.cell?_setCell_other _ _ _ _ (by simp)).trans r1, World.cell?_setCell_same _ _ _ r2, by rw [World.frozen?_setCell]; exact rf, ownsRow_setCell_below hown2 (by simp) _, hbz9.setCell (by have := HGB.out; show wc.heap.size ≤ gb; omega) _⟩
        case measure => simp [intOf]; omega
      · obtain rfl : k = 8 := by omega
        obtain ⟨A2, d3, rfl, hd3, hm3, hr3, _, _⟩ := ownS_slice hown
        have HB : Hid (∀ wX, Below wr.heap.size wr wX → wX.cell? ⟨gb, 0, none⟩ = some (.int .i64 16) ∧ wX.cell? ⟨gb, 1, none⟩ = some (.int .i64 1099511627776) ∧ wX.cell? ⟨gb, 2, none⟩ = some (.slice A2 8 d3) ∧ Rd wX A2 (txs (bigL 8))) :=
          fun wX h => ⟨(h.cell (p := ⟨gb, _, none⟩) hgl').trans d0, (h.cell (p := ⟨gb, _, none⟩) hgl').trans d1, (h.cell (p := ⟨gb, _, none⟩) hgl').trans d2, hr3.below h⟩
        have hb3 : Below w.heap.size w wr := hb1.trans (hbz.mono hb1.size)
        have hbx := hbz
        have hsmall := bytes_small bigs_ok
        have HBY := Lib.hid (batBytes_byts 16 1099511627776 (bigL 8))
        obtain ⟨nb, hnb⟩ : ∃ nb, (batBytes 16 1099511627776 (bigL 8)).length = nb := ⟨_, rfl⟩
        rw [hnb] at hsmall
        have HNB := Lib.hid hnb
        have HL8 : Hid ((bigL 8).length = 8) := rfl
        clear hnb hown hbz
        go_wp2_with fail
        refine (K.bytes_yes 16 1099511627776 A2 d3 8 (bigL 8) _ bigs_ok rfl hr3 hd3 hm3).mono ?_
        rintro e w4 ⟨v4, rfl, ho4, hq4⟩
        have ho4b := own_cast ho4 ((u8s_length _).trans HNB.out)
        obtain ⟨A4, d4, rfl, hd4, hm4, hr4, _, hl4⟩ := own_val ho4b
        clear hl4 ho4 ho4b d0 d1 d2 df c0 c1 c2 c3
        go_wp2_with fail
        refine (K.parse_yes A4 d4 nb _ 16 1099511627776 (bigL 8) _ (parse_put bigs_ok) HNB.out hr4 HBY.out hd4 hm4 (by omega)).mono ?_
        rintro e w5 ⟨A5, d5, rfl, ho5, hq5⟩
        rw [HL8.out] at ho5 ⊢
        have hx5 := hq4.trans (hq5.mono hq4.size)
        clear hq5 hq4 hr4
        obtain ⟨wy, hwy⟩ : ∃ wy, wy = w5.alloc (.cells #[.int .i64 16, .int .i64 1099511627776, .slice A5 8 d5] 26) := ⟨_, rfl⟩
        have HPY := Lib.hid (box_three hwy)
        have hxy : Below wr.heap.size wr wy := by rw [hwy]; exact hx5.alloc hx5.size _
        have hoy := ho5.alloc (.cells #[.int .i64 16, .int .i64 1099511627776, .slice A5 8 d5] 26)
        rw [← hwy] at hoy
        go_wp2_with fail
        rw [← hwy]
        clear hwy ho5 hx5
        refine (num_any _ _).mono ?_
        rintro e w' ⟨rfl, rfl⟩
        obtain ⟨q0, q1, q2⟩ := HPY.out _ (Below.refl _ _)
        obtain ⟨d0, d1, d2, hrb⟩ := HB.out _ hxy
        obtain ⟨_, _, hv5, _, _, hry, _, _⟩ := ownS_slice hoy
        cases hv5
        go_wp2_with fail
        refine (num_any _ _).mono ?_
        rintro e w' ⟨rfl, rfl⟩
        go_wp2_with fail
        refine (eqBatch_same 16 1099511627776 A5 A2 d5 d3 8 (bigL 8) _ rfl hry hrb (by omega)).mono ?_
        rintro e w6 ⟨rfl, hq6⟩
        have hx6 := hxy.trans (hq6.mono hxy.size)
        clear q0 q1 q2 d0 d1 d2 hrb hry hoy hxy hq6
        obtain ⟨c0, c1, c2, c3⟩ := HC.out _ (hbx.trans (hx6.mono hbx.size))
        go_wp2_with fail
        refine (K.tx_yes ⟨1099511627776, 1099511627776, bigT.k, bigT.v⟩ _ big_ok).mono ?_
        rintro e w7 ⟨rfl, hq7⟩
        have hx7 := hx6.trans (hq7.mono hx6.size)
        clear c0 c1 c2 c3 hq7 hx6
        obtain ⟨c0, c1, c2, c3⟩ := HC.out _ (hbx.trans (hx7.mono hbx.size))
        go_wp2_with fail
        refine (num_any _ _).mono ?_
        rintro e w' ⟨rfl, rfl⟩
        go_upto_region 12 with fail
        have zk : bigT.k.size = 16 := rfl
        have zv : bigT.v.size = 32 := rfl
        go_upto_region 19 with fail
        obtain ⟨w8, hw8⟩ : ∃ w8, w8 = w7.alloc (.cells #[.int .i64 1099511627777, .int .i64 1099511627776, .string bigT.k, .string bigT.v, .int .i64 1099511627776, .int .i64 1099511627777, .string bigT.k, .string bigT.v, .int .i64 1099511627776, .int .i64 1099511627776, .string (bigT.k ++ ⟨#[120]⟩), .string bigT.v, .int .i64 1099511627776, .int .i64 1099511627776, .string bigT.k, .string (bigT.v ++ ⟨#[120]⟩), .int .i64 1099511627776, .int .i64 1099511627776, .string ⟨#[]⟩, .string bigT.v, .int .i64 0, .int .i64 1099511627776, .string bigT.k, .string bigT.v, .int .i64 1099511627776, .int .i64 0, .string bigT.k, .string bigT.v] 34) := ⟨_, rfl⟩
        obtain ⟨gd, hgd⟩ : ∃ gd, gd = w7.heap.size := ⟨_, rfl⟩
        have hx8 : Below wr.heap.size wr w8 := by rw [hw8]; exact hx7.alloc hx7.size _
        have hrbad : Rd w8 (some ⟨gd, 0, none⟩) (txs badL) := by rw [hw8, hgd]; exact rd_new w7 (txs badL) _
        have HBAD : Hid (∀ wX, Below w8.heap.size w8 wX → Rd wX (some ⟨gd, 0, none⟩) (txs badL)) := fun wX h => hrbad.below h
        rw [← hw8, ← hgd]
        clear hw8 hgd hx7 hrbad c0 c1 c2 c3 zk zv
        go_wp2_with fail
        go_loopw [11] (fun i wz => ∃ j : Nat, i = .int .i64 j ∧ j ≤ 7 ∧ Below w8.heap.size w8 wz) (fun i _ => 7 - (intOf i).toNat)
        case atStart => exact ⟨0, rfl, by omega, Below.refl _ _⟩
        case round =>
          obtain ⟨j, rfl, hj, hbj⟩ := hrel
          have hxj := hx8.trans (hbj.mono hx8.size)
          by_cases hlt : j < 7
          · have i0 : (0 : Int) ≤ (j : Int) := by omega
            have i1 : (j : Int) < 7 := by omega
            have i2 : (j : Int) < 8 := by omega
            obtain ⟨d0, d1, d2, hrb⟩ := HB.out _ hxj
            go_wp2_with fail
            refine (copyBatch_any 16 1099511627776 A2 d3 8 (bigL 8) _ rfl hrb hd3 (by omega)).mono ?_
            rintro e w9 ⟨A6, d6, rfl, ho9, hq9⟩
            obtain ⟨g6, c6, hv6, hBg, hg6⟩ := ho9.form (by omega)
            cases hv6
            clear d0 d1 d2 hrb
            obtain ⟨w10, hw10⟩ : ∃ w10, w10 = w9.alloc (.cells #[.int .i64 16, .int .i64 1099511627776, .slice (some ⟨g6, 0, none⟩) 8 d6] 26) := ⟨_, rfl⟩
            obtain ⟨g9, hg9⟩ : ∃ g9, g9 = w9.heap.size := ⟨_, rfl⟩
            have hb10 : Below w8.heap.size w8 w10 := by rw [hw10]; exact (hbj.trans (hq9.mono hbj.size)).alloc (by have := hq9.size; have := hbj.size; omega) _
            have ho10 := ho9.alloc (.cells #[.int .i64 16, .int .i64 1099511627776, .slice (some ⟨g6, 0, none⟩) 8 d6] 26)
            rw [← hw10] at ho10
            have HPC := Lib.hid (box_three hw10)
            rw [← hg9] at HPC
            obtain ⟨t, ht, htn, hbn⟩ := bad_no j hlt
            obtain ⟨bq, oq, ⟨ts, tq, tk, tv⟩, hqq, hbl, hat, e0, e1, e2, e3⟩ := (HBAD.out _ hb10).tx (i := j) (by show j < 7; omega)
            cases hqq
            simp only [Nat.zero_add] at e0 e1 e2 e3
            cases ht.symm.trans hat
            have HTN := Lib.hid htn
            have HBN := Lib.hid hbn
            have HAT := Lib.hid hat
            clear ht htn hbn hat
            have hjj : ∀ m, m < 4 → w10.cell? ⟨g6, j * 4 + m, none⟩ = some ((txs (bigL 8))[j * 4 + m]?.getD undef) := fun m hm => (ho10.cellAt (j * 4 + m) (by omega)).trans (some_at (by rw [txs_length]; show j * 4 + m < 32; omega))
            have f0 := hjj 0 (by omega)
            have f1 := hjj 1 (by omega)
            have f2 := hjj 2 (by omega)
            have f3 := hjj 3 (by omega)
            rw [Nat.add_zero] at f0
            have z0 := ho10.frozenAt (j * 4)
            have z1 := ho10.frozenAt (j * 4 + 1)
            have z2 := ho10.frozenAt (j * 4 + 2)
            have z3 := ho10.frozenAt (j * 4 + 3)
            obtain ⟨w11, hw11⟩ : ∃ w11, w11 = (((w10.setCell ⟨g6, j * 4, none⟩ (.int .i64 ts)).setCell ⟨g6, j * 4 + 1, none⟩ (.int .i64 tq)).setCell ⟨g6, j * 4 + 2, none⟩ (.string tk)).setCell ⟨g6, j * 4 + 3, none⟩ (.string tv) := ⟨_, rfl⟩
            have ho11 := ((((ho10.stored (j * 4) (.int .i64 ts)).1.stored (j * 4 + 1) (.int .i64 tq)).1.stored (j * 4 + 2) (.string tk)).1.stored (j * 4 + 3) (.string tv)).1
            have hset := txs_set (bigL 8) j ⟨ts, tq, tk, tv⟩ (by show j < 8; omega)
            simp only at hset
            rw [hset, ← hw11] at ho11
            have hBg8 : w8.heap.size ≤ g6 := by have := hbj.size; omega
            have hb11 : Below w8.heap.size w8 w11 := by rw [hw11]; exact (((hb10.setCell hBg8 _).setCell hBg8 _).setCell hBg8 _).setCell hBg8 _
            have hne : g9 ≠ g6 := by omega
            obtain ⟨q0, q1, q2⟩ := HPC.out _ (Below.refl _ _)
            have p0 : w11.cell? ⟨g9, 0, none⟩ = some (.int .i64 16) := by rw [hw11]; exact cell_far4 hne q0
            have p1 : w11.cell? ⟨g9, 1, none⟩ = some (.int .i64 1099511627776) := by rw [hw11]; exact cell_far4 hne q1
            have p2 : w11.cell? ⟨g9, 2, none⟩ = some (.slice (some ⟨g6, 0, none⟩) 8 d6) := by rw [hw11]; exact cell_far4 hne q2
            have hg9l : g9 < w11.heap.size := World.block_lt_of_cell? w11 _ p0
            have HG9 : Hid (∀ wX, Below w11.heap.size w11 wX → wX.cell? ⟨g9, 0, none⟩ = some (.int .i64 16) ∧ wX.cell? ⟨g9, 1, none⟩ = some (.int .i64 1099511627776) ∧ wX.cell? ⟨g9, 2, none⟩ = some (.slice (some ⟨g6, 0, none⟩) 8 d6)) :=
              fun wX h => ⟨(h.cell (p := ⟨g9, _, none⟩) hg9l).trans p0, (h.cell (p := ⟨g9, _, none⟩) hg9l).trans p1, (h.cell (p := ⟨g9, _, none⟩) hg9l).trans p2⟩
            obtain ⟨_, _, hv11, hc11, hm11, hr11, _, _⟩ := ownS_slice ho11
            cases hv11
            obtain ⟨_, _, _, hqq, _, hat', k0, k1, k2, k3⟩ := (HBAD.out _ hb11).tx (i := j) (by show j < 7; omega)
            cases hqq
            cases HAT.out.symm.trans hat'
            simp only [Nat.zero_add] at k0 k1 k2 k3
            have HW := Lib.hid hw11
            clear hjj hset hat' p0 p1 p2
            go_upto_region 23 with fail
            rw [← hw10, ← hg9]
            clear hw10 hg9 hw11
            go_region
            all_goals
              rw [← HW.out]
              clear f0 f1 f2 f3 z0 z1 z2 z3 q0 q1 q2 e0 e1 e2 e3
              go_wp2_with fail
              refine (K.tx_no ⟨ts, tq, tk, tv⟩ _ HTN.out).mono ?_
              rintro e w12 ⟨rfl, hq12⟩
              have hx12 : Below w11.heap.size w11 w12 := by first | exact hq12 | exact ((Below.refl _ _).drew).trans hq12
              have hr12 := hr11.below hx12
              obtain ⟨p0, p1, p2⟩ := HG9.out _ hx12
              clear hq12 k0 k1 k2 k3
              go_wp2_with fail
              refine (num_any _ _).mono ?_
              rintro e w' ⟨rfl, rfl⟩
              go_wp2_with fail
              refine (K.check_no 16 1099511627776 _ d6 8 _ _ HBN.out (by rw [List.length_set]; rfl) hr12 hc11 hm11).mono ?_
              rintro e w13 ⟨rfl, hq13⟩
              have hb13 : Below w8.heap.size w8 w13 := hb11.trans ((hx12.trans (hq13.mono hx12.size)).mono hb11.size)
              clear hq13 p0 p1 p2 hr12 hx12
              go_wp2_with fail
              refine (num_any _ _).mono ?_
              rintro e w' ⟨rfl, rfl⟩
              go_wp2_with fail
              go_roundw
              case rel => exact ⟨j + 1, by go_num, by omega, hb13⟩
              case measure => simp [intOf]; omega
          · have i1 : ¬ ((j : Int) < 7) := by omega
            obtain ⟨d0, d1, d2, hrb⟩ := HB.out _ hxj
            have hgbl : gb < wr.heap.size := World.block_lt_of_cell? wr _ d0
            go_upto_region 26 with fail
            refine four_copies (z := 4) (p := 139) (q := 13) (L := bigL 8) rfl (back_of (by kernel_rfl)) ?_ ?_ ?_ ?_ (by decide) (by decide) (by simp) rfl hgbl d0 d1 d2 rfl (by decide) hrb hd3 (by decide) ?_
            · intro k hk
              rcases k with _ | _ | _ | _ | k
              all_goals first | exact ⟨_, rfl, rfl, rfl, rfl⟩ | omega
            · intro k hk
              rcases k with _ | _ | _ | _ | k
              all_goals first | exact ⟨_, rfl, rfl, rfl, rfl, by simp⟩ | omega
            · intro k hk
              rcases k with _ | _ | _ | _ | k
              all_goals first | exact ⟨_, rfl, rfl, rfl, rfl⟩ | omega
            · intro k hk
              rcases k with _ | _ | _ | _ | k
              all_goals first | exact ⟨_, rfl, rfl, rfl, rfl, by simp, by simp⟩ | omega
            · intro r b c w9 hF
              have S9 := hF.vars (by decide)
              have hap := hF.apart
              have B9 := S9.below
              obtain ⟨b0, hb0⟩ : ∃ x, b 0 = x := ⟨_, rfl⟩
              obtain ⟨b1, hb1'⟩ : ∃ x, b 1 = x := ⟨_, rfl⟩
              obtain ⟨b2, hb2'⟩ : ∃ x, b 2 = x := ⟨_, rfl⟩
              obtain ⟨b3, hb3'⟩ : ∃ x, b 3 = x := ⟨_, rfl⟩
              have E0 := Lib.hid hb0
              have E1 := Lib.hid hb1'
              have E2 := Lib.hid hb2'
              have E3 := Lib.hid hb3'
              obtain ⟨v0, hv0⟩ : ∃ v, rowV 8 (r 0) (c 0) = v := ⟨_, rfl⟩
              have HV0 := Lib.hid hv0
              have HB9 := Lib.hid B9
              have HS9 := Lib.hid S9
              have HAP := Lib.hid hap
              have hrw := (S9.row 0 (by decide)).2
              obtain ⟨⟨x0, x1, x2⟩, _, _⟩ := S9.box 0 (by decide)
              simp only [hb0] at x0 x1 x2
              simp only [rowV] at x2 hrw
              have hx9 : Below wc.heap.size wc w9 := hbx.trans ((hxj.trans (B9.mono hxj.size)).mono hbx.size)
              have hsz9 := B9.size
              obtain ⟨c0, c1, c2, c3⟩ := HC.out _ hx9
              simp only [hb0, hb1', hb2', hb3', rowV]
              clear hF d0 d1 d2 hrb S9 hap B9 hb0 hb1' hb2' hb3' hv0
              go_wp2_with (at_builtin; refine wpList_app_far _ rfl _ _ 24 rfl wr.heap.size 34 _ 4 48 Try.underlying24 info_tx rfl (by decide) (by decide) _ 8 _ rfl (hrw.alloc _) w9.heap.size (TxD.cells ⟨1099511627776, 1099511627776, bigT.k, bigT.v⟩) rfl rfl (cells_new _ _ _) (cells_one _) (by omega) (by simp; omega) ?_)
              intro v' w10 ho10 hq10 hg10
              clear x0 x1 x2 c0 c1 c2 c3 hrw
              obtain ⟨A10, c10, rfl, hc10, hm10, _, _, _⟩ := ownS_slice ho10
              have ho10' := ownS_conv ho10 (ys := txs (bigL 9)) (bigL_next 8) rfl
              have S10 := Vars.grown (k := 0) (HS9.out.later ((Below.refl _ _).alloc (Nat.le_refl _) _)) (by decide) hg10 ((HB9.out.alloc hsz9 _).trans hq10) (by decide) ho10' HAP.out
              clear ho10 ho10' hg10 hq10 hsz9 hx9
              obtain ⟨⟨_, _, x2⟩, ⟨_, _, f2⟩, _⟩ := S10.box 0 (by decide)
              simp [E0.out, rowV] at x2 f2
              have S11 := S10.set2 (k := 0) (by decide) (.slice A10 9 c10)
              rw [E0.out] at S11
              go_upto_region 28 with fail
              obtain ⟨w11, hw11⟩ : ∃ w11, w11 = w10.setCell ⟨b0, 2, none⟩ (.slice A10 9 c10) := ⟨_, rfl⟩
              rw [← hw11] at S11 ⊢
              clear x2 f2 S10 hw11
              obtain ⟨⟨_, _, x2⟩, ⟨_, _, f2⟩, _⟩ := S11.box 1 (by decide)
              simp [chg, E1.out, rowV] at x2 f2
              have S12 := S11.set2 (k := 1) (by decide) (.slice none 0 0)
              rw [E1.out] at S12
              go_upto_region 29 with fail
              obtain ⟨w12, hw12⟩ : ∃ w12, w12 = w11.setCell ⟨b1, 2, none⟩ (.slice none 0 0) := ⟨_, rfl⟩
              rw [← hw12] at S12 ⊢
              clear x2 f2 S11 hw12
              obtain ⟨⟨x0, _, _⟩, ⟨f0, _, _⟩, _⟩ := S12.box 2 (by decide)
              simp [E2.out] at x0 f0
              have S13 := S12.set0 (k := 2) (by decide) 17
              rw [E2.out] at S13
              go_upto_region 30 with fail
              obtain ⟨w13, hw13⟩ : ∃ w13, w13 = w12.setCell ⟨b2, 0, none⟩ (.int .i64 17) := ⟨_, rfl⟩
              rw [← hw13] at S13 ⊢
              clear x0 f0 S12 hw13
              obtain ⟨⟨_, x1, _⟩, ⟨_, f1, _⟩, _⟩ := S13.box 3 (by decide)
              simp [E3.out] at x1 f1
              have S14 := S13.set1 (k := 3) (by decide) 1099511627777
              rw [E3.out] at S14
              go_upto_region 31 with fail
              obtain ⟨w14, hw14⟩ : ∃ w14, w14 = w13.setCell ⟨b3, 1, none⟩ (.int .i64 1099511627777) := ⟨_, rfl⟩
              rw [← hw14] at S14 ⊢
              clear x1 f1 S13 hw14
              obtain ⟨⟨x0, x1, x2⟩, _, _⟩ := S14.box 0 (by decide)
              simp [chg, E0.out] at x0 x1 x2
              have hrow := (S14.row 0 (by decide)).2
              simp only [chg, if_pos] at hrow
              obtain ⟨_, _, hv14, _, _, hr14, _, _⟩ := ownS_slice hrow
              cases hv14
              go_wp2_with fail
              refine (K.check_no 16 1099511627776 A10 c10 9 (bigL 9) _ no_nine rfl hr14 hc10 hm10).mono ?_
              rintro e w15 ⟨rfl, hq15⟩
              have S15 := S14.later hq15
              clear x0 x1 x2 hrow hr14 hq15 S14
              go_wp2_with fail
              refine (num_any _ _).mono ?_
              rintro e w' ⟨rfl, rfl⟩
              obtain ⟨⟨x0, x1, x2⟩, _, _⟩ := S15.box 1 (by decide)
              simp [chg, E1.out] at x0 x1 x2
              go_wp2_with fail
              refine (K.check_no 16 1099511627776 none 0 0 [] _ no_none rfl (Rd.nil _ _) (by decide) (by decide)).mono ?_
              rintro e w16 ⟨rfl, hq16⟩
              have S16 := S15.later hq16
              clear x0 x1 x2 hq16 S15
              go_wp2_with fail
              refine (num_any _ _).mono ?_
              rintro e w' ⟨rfl, rfl⟩
              obtain ⟨⟨x0, x1, x2⟩, _, _⟩ := S16.box 2 (by decide)
              simp [chg, E2.out, rowV] at x0 x1 x2
              have hrow := (S16.row 2 (by decide)).2
              simp [chg, rowV] at hrow
              obtain ⟨_, _, hv16, hc16, hm16, hr16, _, _⟩ := ownS_slice hrow
              cases hv16
              go_wp2_with fail
              refine (K.check_no 17 1099511627776 _ _ 8 (bigL 8) _ no_author rfl hr16 hc16 hm16).mono ?_
              rintro e w17 ⟨rfl, hq17⟩
              have S17 := S16.later hq17
              clear x0 x1 x2 hq17 hrow hr16 hc16 hm16 S16
              go_wp2_with fail
              refine (num_any _ _).mono ?_
              rintro e w' ⟨rfl, rfl⟩
              obtain ⟨⟨x0, x1, x2⟩, _, _⟩ := S17.box 3 (by decide)
              simp [chg, E3.out, rowV] at x0 x1 x2
              have hrow := (S17.row 3 (by decide)).2
              simp [chg, rowV] at hrow
              obtain ⟨_, _, hv17, hc17, hm17, hr17, _, _⟩ := ownS_slice hrow
              cases hv17
              go_wp2_with fail
              refine (K.check_no 16 1099511627777 _ _ 8 (bigL 8) _ no_number rfl hr17 hc17 hm17).mono ?_
              rintro e w18 ⟨rfl, hq18⟩
              have S18 := S17.later hq18
              clear x0 x1 x2 hq18 hrow hr17 hc17 hm17 S17
              go_wp2_with fail
              refine (num_any _ _).mono ?_
              rintro e w' ⟨rfl, rfl⟩
              have il : (0 : Int) ≤ (len : Int) := by omega
              go_wp2_with fail
              refine (wakes_any K _).mono ?_
              rintro e w19 ⟨rfl, hq19⟩
              have hfin : Below w.heap.size w w19 := (hb3.trans ((hxj.trans ((S18.below.trans (hq19.mono S18.below.size)).mono hxj.size)).mono hb3.size))
              go_wp2_with fail
              go_ret
              exact ⟨rfl, hfin⟩

end Go.Proofs.Ytkkamcdilpcehaa
