/-
 The page's Took.
-/
import Derived.WalkKit
import Derived.Below
import Derived.Deep.Draws
import Derived.Deep.AppendLies
import Derived.Lib.AppendStr
import Derived.Lib.ConvBytes
import Derived.Lib.Hide
import Derived.Test.YteepobghdpnabaaGreatRows
import Derived.WalkSpells
import Derived.WalkLawsBesides
import Derived.Deep.QuietTactic
import Derived.BigQuiet
import Derived.LoopTactic
import Derived.Outline
import Derived.Laws.StructEq
import Derived.Deep.RegionHeld3
import Derived.OneCell
import Derived.IntWalk
import Derived.ProofKit
import Derived.OpenShut
import Derived.SliceStrings
import Derived.ChangeSlices
import Derived.Deep.Slices
import Derived.Deep.Fields
import Derived.ChangeOld
import Derived.Carry
import Derived.SizedLaws
import Derived.ScopeJumps
import Derived.Deep.MidRow
import Derived.Deep.DeepCutAuto
import Derived.Deep.CutRange
import Derived.Deep.RegionLaw
import Derived.BigRegion
import Derived.Laws.Rows
import Derived.Laws.CopyRow
import Derived.Lib.AppendZerosOnto
import Derived.Lib.Overlaps
import Derived.StillTailTactics
import Derived.Laws.Externs
import Derived.Deep.CutBlock
import Derived.Maps.OwnSet
import Derived.Great.BuildSlice
import Derived.Lib.MinMax
import Derived.Deep.Heap
import Derived.Test.YteepobghdpnabaaGreatKWorkerTicksa
import Derived.Test.YteepobghdpnabaaGreatKWorkerTicksb
import Derived.Test.YteepobghdpnabaaGreatKWorkerTicksc
import Derived.Test.YteepobghdpnabaaGreatKWorkerTicksd
import Derived.Test.YteepobghdpnabaaGreatKWorkerTickse
import Derived.Test.YteepobghdpnabaaGreatKWorkerTicksf
import Derived.Test.YteepobghdpnabaaGreatKWorkerTicksg
import Derived.Test.YteepobghdpnabaaGreatKWorkerTicksh
import Derived.Test.YteepobghdpnabaaGreatKWorkerTicksi
import Derived.Test.YteepobghdpnabaaGreatKWorkerTicksj
import Derived.Test.YteepobghdpnabaaGreatKWorkerTicksk
import Derived.Test.YteepobghdpnabaaGreatKWorkerTicksl
import Derived.Test.YteepobghdpnabaaGreatKWorkerTicksm
import Derived.Test.YteepobghdpnabaaGreatKWorkerTicksn
import Derived.Test.YteepobghdpnabaaGreatKWorkerTickso
import Derived.Test.YteepobghdpnabaaGreatKWorkerTicksp
import Derived.Test.YteepobghdpnabaaGreatKWorkerTicksq
import Derived.Test.YteepobghdpnabaaGreatKWorkerTicksr
import Derived.Test.YteepobghdpnabaaGreatKWorkerTickss
import Derived.Test.YteepobghdpnabaaGreatKWorkerTickst
import Derived.Test.YteepobghdpnabaaGreatKWorkerTicksu
import Derived.Test.YteepobghdpnabaaGreatKWorkerTicksv
import Derived.Test.YteepobghdpnabaaGreatKWorkerTicksw
import Derived.Test.YteepobghdpnabaaGreatKWorkerTicksx
import Derived.Test.YteepobghdpnabaaGreatKWorkerTicksy
import Derived.Test.YteepobghdpnabaaGreatKWorkerTicksz
import Derived.Test.YteepobghdpnabaaGreatKWorkerTicksaa
import Derived.Test.YteepobghdpnabaaGreatKWorkerTicksab
import Derived.Test.YteepobghdpnabaaGreatKWorkerTicksac
import Derived.Test.YteepobghdpnabaaGreatKWorkerTicksad
import Derived.Test.YteepobghdpnabaaGreatKWorkerTicksae
import Derived.Test.YteepobghdpnabaaGreatKWorkerTicksaf
import Derived.Test.YteepobghdpnabaaGreatKWorkerTicksag
import Derived.Test.YteepobghdpnabaaGreatKWorkerTicksah
import Derived.Test.YteepobghdpnabaaGreatKWorkerTicksai
import Derived.Test.YteepobghdpnabaaGreatKWorkerTicksaj
import Derived.Test.YteepobghdpnabaaGreatKWorkerTicksak
import Derived.Test.YteepobghdpnabaaGreatKWorkerTicksal
import Derived.Test.YteepobghdpnabaaGreatKWorkerTicksam
import Derived.Test.YteepobghdpnabaaGreatKWorkerTicksan
import Derived.Test.YteepobghdpnabaaGreatKWorkerTicksao
import Derived.Test.YteepobghdpnabaaGreatKWorkerTicksap
import Derived.Test.YteepobghdpnabaaGreatKWorkerTicksaq
import Derived.Test.YteepobghdpnabaaGreatKWorkerTicksar
import Derived.Test.YteepobghdpnabaaGreatHWorkerTooksa
import Derived.Test.YteepobghdpnabaaGreatHWorkerTooksb
namespace Go.Proofs.YteepobghdpnabaaGreat
open Go.RowKit

theorem WNew.newR {B : Nat} {w : World} {P : WkD} {a : WkA} {L : List Int} {o : Ad} (h : WNew B w P a) (ho : w.ownsRow B 3 1 o.v o.n (i64s L)) (hl : L.length = o.n) (hf : ∀ x ∈ a.ms, ∀ k, o.v.ownBlock = some k → x.2.v.ownBlock ≠ some k) : WNew B w { P with R := L } { a with R := o } :=
 ⟨⟨h.core.waits, h.core.eW, h.core.held, h.core.eH, ho, hl, hf⟩, h.open_, h.oL, h.apO⟩
structure TR (D x : Nat) (P : WkD) (a : WkA) (l : List Int) (w : World) (o : Ad) (k : Nat) (wr : World) : Prop where
 box : Box wr x (wkC { P with R := outOf l (P.R.take k) } { a with R := o })
 row : wr.ownsRow D 3 1 o.v o.n (i64s (outOf l (P.R.take k)))
 len : (outOf l (P.R.take k)).length = o.n
 keep : WNew D wr P a
 bel : Below D w wr
 oD : ∀ j, o.v.ownBlock = some j → w.heap.size ≤ j
 wsz : w.heap.size ≤ wr.heap.size
section
variable {D x k : Nat} {P : WkD} {a : WkA} {l : List Int} {w wr w1 w2 : World} {o o' : Ad} {y : Int}
theorem TR.below (h : TR D x P a l w o k wr) (hb : Below wr.heap.size wr w1) (hD : D ≤ w.heap.size) : TR D x P a l w o k w1 :=
 ⟨h.box.below hb h.box.1, ownS_below h.row hb, h.len, h.keep.below hb, h.bel.trans (hb.mono (Nat.le_trans hD h.wsz)), h.oD, Nat.le_trans h.wsz hb.size⟩
theorem TR.skip (h : TR D x P a l w o k wr) (hy : P.R[k]? = some y) (hm : y ∈ l) : TR D x P a l w o (k + 1) wr := by
 have e : outOf l (P.R.take (k + 1)) = outOf l (P.R.take k) := by rw [outOf_take hy, if_pos hm, List.append_nil]
 exact ⟨by rw [e]; exact h.box, by rw [e]; exact h.row, by rw [e]; exact h.len, h.keep, h.bel, h.oD, h.wsz⟩
theorem TR.more (h : TR D x P a l w o k wr) (hx : x < w.heap.size) (hy : P.R[k]? = some y) (hm : y ∉ l) (hg : wr.grownBy w2 o.v.ownBlock) (ho : w2.ownsRow D 3 1 o'.v o'.n (i64s (outOf l (P.R.take k)) ++ [.int .i64 y])) (hn : o'.n = o.n + 1)
  (hat : o.v.ownBlock = o'.v.ownBlock ∨ o'.v.ownBlock = some wr.heap.size) (hD : D ≤ x) (hfar : ∀ j, w.heap.size ≤ j → ¬ a.owns j ∧ a.O.v.ownBlock ≠ some j) (hxo : ¬ a.owns x ∧ a.O.v.ownBlock ≠ some x) : TR D x P a l w o' (k + 1) (w2.setCell ⟨x, 8, none⟩ o'.v) := by
 have hT : Touch (fun j => o.v.ownBlock = some j) wr w2 := Touch.grown hg fun j hj => hj
 have Tg : Touch (fun j => j = x) w2 (w2.setCell ⟨x, 8, none⟩ o'.v) := (Touch.refl (fun j => j = x) w2).set (.inl rfl) o'.v
 have e : outOf l (P.R.take (k + 1)) = outOf l (P.R.take k) ++ [y] := by rw [outOf_take hy, if_neg hm]
 have hblk : ∀ j, o'.v.ownBlock = some j → w.heap.size ≤ j := fun j hj => by
  rcases hat with e | e
  ·exact h.oD j (e.trans hj)
  ·rw [e] at hj; cases hj; exact h.wsz
 have hbx := (h.box.touch hT fun hf => by have := h.oD x hf; omega).set (j := 8) (u := o'.v) (show 8 < 9 by decide)
 have hs1 := hT.size
 have hs2 := Tg.size
 have hw := h.wsz
 have hxl := h.box.1
 refine ⟨by rw [e]; exact hbx, by rw [e, i64s_append]; exact own_kept ho fun j hj hl => Tg.block j hl (by have := hblk j hj; omega), by rw [e, List.length_append, h.len, hn]; rfl,
  (h.keep.touch hT (fun j hj => (hfar j (h.oD j hj)).1) (fun j hj => (hfar j (h.oD j hj)).2)).touch Tg (fun j hj => by rw [hj]; exact hxo.1) (fun j hj => by rw [hj]; exact hxo.2), (h.bel.trans (hT.below (fun j hj => by have := h.oD j hj; omega) (by omega))).trans (Tg.below (fun j hj => by omega) (by omega)), hblk, by omega⟩
end

set_option maxRecDepth 100000 in
set_option maxHeartbeats 16000000 in
theorem rtook_any (P : WkD) (a : WkA) (AL : Option Addr) (nL cL : Nat) (l : List Int) (w : World) (h : WIn w P a) (hl : SlIn w ⟨AL, nL, cL⟩ l.length (i64s l)) (hL : l.length ≤ 300000) (hf : WFew P 300000) : Calls Tryz.prog 61 #[wkV P a, .slice AL nL cL] w (Cloned9 (tookW P l) w) := by
  obtain ⟨g, hg⟩ : ∃ g, g = w.heap.size := ⟨_, rfl⟩
  obtain ⟨wa0, hwa0⟩ : ∃ wa0, wa0 = w.alloc (.cells #[.int .i64 P.i, .int .i64 P.N, .int .i64 P.x, .slice a.O.A a.O.n a.O.c, .int .i64 P.g, .int .i64 P.c, .slice a.W.A a.W.n a.W.c, .slice a.H.A a.H.n a.H.c, .slice a.R.A a.R.n a.R.c] 27) := ⟨_, rfl⟩
  have hs0 : wa0.heap.size = g + 1 := by rw [hwa0]; simp; omega
  have bn0 : Box wa0 (g) (wkC P a) := by rw [hwa0, hg]; exact box_new w (wkC P a) 27
  have hb0 : Below g w wa0 := by rw [hwa0]; exact (Below.refl _ _).alloc (by omega) _
  obtain ⟨wa1, hwa1⟩ : ∃ wa1, wa1 = wa0.alloc (.cells #[.int .i64 0, .int .i64 0, .int .i64 0, .slice none 0 0, .int .i64 0, .int .i64 0, .slice none 0 0, .slice none 0 0, .slice none 0 0] 27) := ⟨_, rfl⟩
  have hs1 : wa1.heap.size = g + 2 := by rw [hwa1]; simp; omega
  have bn1 : Box wa1 (g + 1) (zeroC) := by rw [hwa1, ← hs0]; exact box_new wa0 (zeroC) 27
  have hb1 : Below g w wa1 := by rw [hwa1]; exact hb0.alloc (by omega) _
  have HX0 : Hid (Box wa1 (g) (wkC P a)) := (bn0.below (show Below wa0.heap.size wa0 wa1 by rw [hwa1]; exact (Below.refl _ _).alloc (Nat.le_refl _) _) (by omega))
  have HX1 : Hid (Box wa1 (g + 1) (zeroC)) := bn1
  obtain ⟨w0, hw0⟩ : ∃ w0, w0 = wa1 := ⟨_, rfl⟩
  rw [← hw0] at HX0
  rw [← hw0] at HX1
  have hsz0 : w0.heap.size = g + 2 := by rw [hw0]; exact hs1
  have hb0w : Below g w w0 := by rw [hw0]; exact hb1
  have HW0 : Hid ((w.alloc (.cells #[.int .i64 P.i, .int .i64 P.N, .int .i64 P.x, .slice a.O.A a.O.n a.O.c, .int .i64 P.g, .int .i64 P.c, .slice a.W.A a.W.n a.W.c, .slice a.H.A a.H.n a.H.c, .slice a.R.A a.R.n a.R.c] 27)).alloc (.cells #[.int .i64 0, .int .i64 0, .int .i64 0, .slice none 0 0, .int .i64 0, .int .i64 0, .slice none 0 0, .slice none 0 0, .slice none 0 0] 27) = w0) := by show (w.alloc (.cells #[.int .i64 P.i, .int .i64 P.N, .int .i64 P.x, .slice a.O.A a.O.n a.O.c, .int .i64 P.g, .int .i64 P.c, .slice a.W.A a.W.n a.W.c, .slice a.H.A a.H.n a.H.c, .slice a.R.A a.R.n a.R.c] 27)).alloc (.cells #[.int .i64 0, .int .i64 0, .int .i64 0, .slice none 0 0, .int .i64 0, .int .i64 0, .slice none 0 0, .slice none 0 0, .slice none 0 0] 27) = w0; rw [hw0, hwa1, hwa0]
  have HG : Hid (w.heap.size = g) := hg.symm
  have HS0 := Lib.hid hsz0
  have HB0 := Lib.hid hb0w
  have hl0 : g < w0.heap.size := by omega
  have hl1 : g + 1 < w0.heap.size := by omega
  have hgw : g ≤ w0.heap.size := by omega
  have hin0 := h.below' HB0.out HG.out
  have HIN : Hid (∀ wX, Below w0.heap.size w0 wX → WIn wX P a) := by show ∀ wX, _; exact fun wX hX => hin0.below hX
  have HLR : Hid (∀ wX, Below w0.heap.size w0 wX → SlIn wX ⟨AL, nL, cL⟩ l.length (i64s l)) := by show ∀ wX, _; exact fun wX hX => hl.below (by rw [HG.out]; exact HB0.out.trans (hX.mono hgw))
  have HLL : Hid (l.length = nL) := hl.len
  have HF := Lib.hid hf
  have hLn : nL ≤ 300000 := by have := HLL.out; omega
  have bz := box_new w0 zeroC 27
  have HBZ := Lib.hid bz
  obtain ⟨q, hq⟩ : ∃ q, q = w0.heap.size := ⟨_, rfl⟩
  have HQ := Lib.hid hq
  clear hg hsz0 hb0w hw0 hwa0 hs0 bn0 hb0 hwa1 hs1 bn1 hb1
  clear hin0 h hf hl bz
  unfold wkV Ad.v
  go_enter Tryz.func61, Tryz.ntmps61
  go_upto_region 1 with fail
  rw [HG.out, HW0.out]
  go_upto_region 2 with (first
    | (refine wpList_load_box rfl 27 _ rfl g rfl (wkC P a) (HX0.out) _ Tryz.underlying27 rfl size_wk ?_)
    | (go_at_call 15; refine (rcopyWk_any P a w0 (HIN.out _ (Below.refl _ _)) (HF.out.more (by decide))).mono ?_; rintro e w4 ⟨a4, rfl, hn4, hb4⟩; have HBZ4 := Lib.hid (box_new w4 zeroC 27))
    | (refine wpList_store_box rfl 27 _ _ rfl w4.heap.size 0 (wkC P a4) zeroC (wkC P a4) rfl rfl HBZ4.out (show 0 + 9 ≤ 9 by decide) rfl size_wk rfl ?_; intro w5 bx5 T5)
    | (refine wpList_run_to rfl 27 rfl (.pointer (some ⟨w4.heap.size, 0, none⟩)) (w4.alloc (.cells #[.int .i64 0, .int .i64 0, .int .i64 0, .slice none 0 0, .int .i64 0, .int .i64 0, .slice none 0 0, .slice none 0 0, .slice none 0 0] 27)) (by unfold execOp; go_simp; done) ?_))
  obtain ⟨x, hx⟩ : ∃ x, x = w4.heap.size := ⟨_, rfl⟩
  rw [← hx] at bx5 T5 ⊢
  have t5 := T5 (fun k => k = x) rfl
  have hba : Below w4.heap.size w4 (w4.alloc (.cells #[.int .i64 0, .int .i64 0, .int .i64 0, .slice none 0 0, .int .i64 0, .int .i64 0, .slice none 0 0, .slice none 0 0, .slice none 0 0] 27)) := (Below.refl _ _).alloc (Nat.le_refl _) _
  have hb04 : Below w0.heap.size w0 w4 := hb4
  have hxl : w0.heap.size ≤ x := by have := hb4.size; omega
  have hb05 : Below w0.heap.size w0 w5 := (hb04.trans (hba.mono hb04.size)).trans (t5.below (fun k hk => by omega) (by have := hba.size; have := hb04.size; omega))
  have hn5 : WNew w0.heap.size w5 P a4 := (hn4.below hba).touch t5 (fun k hk ho => by have := (hn4.core.lt ho).1; omega) (fun k hk ho => by have := (own_lt hn4.open_ ho).1; omega)
  have hfx : ∀ k, a4.owns k ∨ a4.O.v.ownBlock = some k → k < x := fun k hk => by
    rcases hk with hk | hk
    · have := (hn4.core.lt hk).1; omega
    · have := (own_lt hn4.open_ hk).1; omega
  have HN5 := Lib.hid hn5
  have HB5 := Lib.hid hb05
  have HFX := Lib.hid hfx
  have hx5 : x < w5.heap.size := bx5.1
  clear T5 t5 hba hb04 hb4 hn4 hn5 hb05 hfx hx HBZ4
  have HRL : Hid (P.R.length = a.R.n) := (HIN.out _ (Below.refl _ _)).ready.len
  have hRn : a.R.n ≤ 300000 := by have := HRL.out; have := HF.out.r; omega
  go_upto_region 3 with (first
    | (refine wpList_store_cell rfl 25 _ _ rfl x 8 (.slice none 0 0) (wkC P a4) rfl rfl rfl rfl bx5 (show 8 < 9 by decide) size_sInt ?_; intro w6 bx6 T6))
  have t6 := T6 (fun k => k = x) rfl
  have HN6 : Hid (WNew w0.heap.size w6 P a4) := HN5.out.touch t6 (fun k hk ho => by have := HFX.out k (.inl ho); omega) (fun k hk ho => by have := HFX.out k (.inr ho); omega)
  have HB6 : Hid (Below w0.heap.size w0 w6) := HB5.out.trans (t6.below (fun k hk => by omega) (by have := HB5.out.size; omega))
  have hx6 : x < w6.heap.size := bx6.1
  have HT0 : Hid (TR w0.heap.size x P a4 l w6 noAd 0 w6) := ⟨by rw [List.take_zero]; exact bx6, by rw [List.take_zero]; exact World.ownsRow_nil _ _ _ _, by rw [List.take_zero]; rfl, HN6.out, Below.refl _ _, fun j hj => by simp [noAd, Ad.v, Value.ownBlock] at hj, Nat.le_refl _⟩
  have HFAR : Hid (∀ j, w6.heap.size ≤ j → ¬ a4.owns j ∧ a4.O.v.ownBlock ≠ some j) := by
    show ∀ j, _
    exact fun j hj => ⟨fun ho => by have := HFX.out j (.inl ho); omega, fun ho => by have := HFX.out j (.inr ho); omega⟩
  have HXO : Hid (¬ a4.owns x ∧ a4.O.v.ownBlock ≠ some x) := ⟨fun ho => by have := HFX.out x (.inl ho); omega, fun ho => by have := HFX.out x (.inr ho); omega⟩
  clear T6 t6 bx6 bx5
  go_wp2_with fail
  go_loopw [6] (fun i wr => ∃ (k : Nat) (o : Ad), i = .int .i64 k ∧ k ≤ a.R.n ∧ Hid (TR w0.heap.size x P a4 l w6 o k wr)) (fun i _ => a.R.n - (intOf i).toNat)
  case atStart => exact ⟨0, noAd, rfl, Nat.zero_le _, HT0⟩
  case round =>
    clear HT0
    obtain ⟨k, o, rfl, hk, HS⟩ := hrel
    have hb0r : Below w0.heap.size w0 wr := HB6.out.trans HS.out.bel
    have HBR := Lib.hid hb0r
    have i0 : (0 : Int) ≤ (k : Int) := by omega
    have k8 : wr.cell? ⟨g, 8, none⟩ = some (.slice a.R.A a.R.n a.R.c) := ((HX0.out.below hb0r hl0).2 8 _ rfl).1
    have hon : o.n ≤ 300000 := by have h1 := HS.out.len; have h2 := outOf_len l (P.R.take k); have h3 : (P.R.take k).length ≤ k := (by rw [List.length_take]; exact Nat.min_le_left _ _); omega
    have hglr : g < wr.heap.size := by have := hb0r.size; omega
    have hxr : x < wr.heap.size := HS.out.box.1
    by_cases hlt : k < a.R.n
    · have hin := (HIN.out wr hb0r).ready
      obtain ⟨bl, off, hAR, hbl, hcell⟩ := hin.rd.open_ (by rw [i64s_length, HRL.out]; omega)
      rw [hAR] at k8
      have hc1 := hcell k _ (i64s_at (by rw [HRL.out]; exact hlt))
      have hy : P.R[k]? = some (P.R[k]?.getD 0) := at_some (by rw [HRL.out]; exact hlt)
      obtain ⟨y, hye⟩ : ∃ y, y = P.R[k]?.getD 0 := ⟨_, rfl⟩
      rw [← hye] at hc1 hy
      have HY := Lib.hid hy
      have i1 : (k : Int) < (a.R.n : Int) := by omega
      have HCI : Hid (∀ wX, Below wr.heap.size wr wX → Calls Tryz.prog 75 #[.slice AL nL cL, .int .i64 y] wX fun e w' => e = .returned (.int .i64 (idxI l y)) ∧ wX = w') := by
        show ∀ wX, _
        intro wX hX
        have h1 := HLR.out wX (hb0r.trans (hX.mono hb0r.size))
        exact rin_is AL nL cL l y wX h1.len h1.rd (by omega)
      obtain ⟨r, hr⟩ : ∃ r, r = idxI l y := ⟨_, rfl⟩
      rw [← hr] at HCI
      have HRI : Hid (0 ≤ r ↔ y ∈ l) := by show _ ↔ _; rw [hr]; exact idxI_ge
      clear hin hAR hcell hye hy hr hb0r
      by_cases hr0 : 0 ≤ r
      · have jr : ¬ (r < 0) := by omega
        have HM := Lib.hid (HRI.out.1 hr0)
        clear hr0
        go_wp2_with (go_at_call 75; refine (HCI.out _ (Below.refl _ _)).mono ?_; rintro e w' ⟨rfl, rfl⟩)
        go_roundw
        case rel => exact ⟨k + 1, o, by go_num, by omega, HS.out.skip HY.out HM.out⟩
        case measure => simp [intOf]; omega
      · have jr : r < 0 := by omega
        have HM : Hid (y ∉ l) := fun h => hr0 (HRI.out.2 h)
        clear hr0
        go_upto_region 7 with (go_at_call 75; refine (HCI.out _ (Below.refl _ _)).mono ?_; rintro e w' ⟨rfl, rfl⟩)
        have b8 : wr.cell? ⟨x, 8, none⟩ = some (.slice o.A o.n o.c) := (HS.out.box.2 8 _ rfl).1
        have f8 : wr.frozen? ⟨x, 8, none⟩ = false := (HS.out.box.2 8 _ rfl).2
        have HOF := Lib.hid HS.out.oD
        have HROW : Hid (wr.ownsRow w0.heap.size 3 1 (.slice o.A o.n o.c) o.n (i64s (outOf l (P.R.take k)))) := HS.out.row
        have hszr : w0.heap.size ≤ wr.heap.size := HBR.out.size
        have hgD : g < w0.heap.size := hl0
        have hx6r := hx6
        go_region_law (first
          | (refine step_app_lies _ (by rfl) _ _ _ (by rfl) w0.heap.size 3 (.int .i64 0) 8 Tryz.underlying25 info_zint rfl (by decide) _ o.n (i64s (outOf l (P.R.take k))) (by rfl) (HROW.out.alloc _) wr.heap.size (.int .i64 y) (by rfl) (cell_new _ _ _) (by rfl) (by omega) (by simp; omega) ?_
             intro g' c' w7 ho7 hg7 hl7
             have hba : Below wr.heap.size wr (wr.drew.alloc (.cells #[.int .i64 y] 3)) := ((Below.refl _ _).drew).alloc (Nat.le_refl _) _
             have hmore := (HS.out.below hba HB6.out.size).more (o' := ⟨some ⟨g', 0, none⟩, o.n + 1, c'⟩) hx6 HY.out HM.out hg7 ho7 rfl (by rcases hl7 with hl7 | hl7; exact .inl hl7; exact .inr (by rw [hl7]; rfl)) hxl HFAR.out HXO.out
             have hxl7 : some x ≠ (Value.slice o.A o.n o.c).ownBlock := fun hq => by have := HOF.out x hq.symm; omega
             have f7 : w7.frozen? ⟨x, 8, none⟩ = false := ((World.frozen?_of_block (a := ⟨x, 8, none⟩) (hg7.block x (show x < (wr.alloc (.cells #[.int .i64 y] 3)).heap.size by simp; omega) hxl7)).trans (hba.frozen (p := ⟨x, 8, none⟩) hxr)).trans f8
             have j7 : w7.cell? ⟨x, 8, none⟩ = some (.slice o.A o.n o.c) := ((World.cell?_of_block (a := ⟨x, 8, none⟩) (hg7.block x (show x < (wr.alloc (.cells #[.int .i64 y] 3)).heap.size by simp; omega) hxl7)).trans (hba.cell (p := ⟨x, 8, none⟩) hxr)).trans b8))
        all_goals
          have HMORE := Lib.hid hmore
          clear hmore ho7 hg7 hl7
          go_wp2_with fail
          go_roundw
          case rel => exact ⟨k + 1, ⟨some ⟨g', 0, none⟩, o.n + 1, c'⟩, by go_num, by omega, HMORE.out⟩
          case measure => simp [intOf]; omega
    · have i1 : ¬ ((k : Int) < (a.R.n : Int)) := by omega
      obtain rfl : k = a.R.n := by omega
      have hbx := HS.out.box
      have hrow := HS.out.row
      have hlen := HS.out.len
      rw [List.take_of_length_le (by rw [HRL.out]; exact Nat.le_refl _)] at hbx hrow hlen
      obtain ⟨aF, haF⟩ : ∃ aF, aF = ({ a4 with R := o } : WkA) := ⟨_, rfl⟩
      have hbxF : Box wr x (wkC (tookW P l) aF) := by rw [haF]; exact hbx
      have HBXF := Lib.hid hbxF
      have HNF : Hid (WNew w0.heap.size wr (tookW P l) aF) := by
        show WNew _ _ _ _
        rw [haF]
        exact HS.out.keep.newR hrow hlen (fun y hy k hk hk2 => by have := HS.out.oD k hk; have := (own_lt (HN6.out.core.waits.sub y hy).1 hk2).1; omega)
      have HBF := HBR
      have hresr : Box wr (g + 1) zeroC := HX1.out.below hb0r hl1
      clear hbx hrow hlen haF hbxF hb0r
      go_wp2_with (first
        | (refine wpList_load_box rfl 27 _ rfl x rfl (wkC (tookW P l) aF) HBXF.out _ Tryz.underlying27 rfl size_wk ?_)
        | (refine wpList_store_box rfl 27 _ _ rfl (g + 1) 0 (wkC (tookW P l) aF) zeroC (wkC (tookW P l) aF) rfl rfl hresr (show 0 + 9 ≤ 9 by decide) rfl size_wk rfl ?_; intro wE bxE TE))
      have tE := TE (fun k => k = g + 1) rfl
      obtain ⟨r0, r1, r2, r3, r4, r5, r6, r7, r8⟩ := wk_cells bxE
      refine bodyPost_ret (v := wkV (tookW P l) aF) (by simp [results, Tryz.results61, go_sem, r0, r1, r2, r3, r4, r5, r6, r7, r8, wkV, Ad.v]) rfl ⟨aF, rfl, ?_, ?_⟩
      · rw [HG.out]
        exact (HNF.out.touch tE (fun k hk ho => by have := (HNF.out.core.lt ho).2; omega) (fun k hk ho => by have := (own_lt HNF.out.open_ ho).2; omega)).more (by omega)
      · rw [HG.out]
        exact (HB0.out.trans (HBF.out.mono hgw)).trans (tE.below (fun k hk => by omega) (by have := HBF.out.size; omega))

end Go.Proofs.YteepobghdpnabaaGreat
