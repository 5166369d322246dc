/-
  What the laws on anchors are asked, what is too heavy; the waking call.
-/
import Derived.Test.YtejkeccoialogaaQLaw
import Derived.Test.YtejkeccoialogaaAVotes
import Derived.Test.YtejkeccoialogaaYCpD
import Derived.Laws.OwnMore
namespace Go.Proofs.Ytejkeccoialogaa
open Go.RowKit Go.ChangeShapes Go.WideShapes Go.Deep

theorem numA_any (n : Int) (w : World) : Calls Try.prog 29 #[.int .i64 n] w fun e w' => e = .returned (.int .i64 n) ∧ w = w' := by
  go_enter Try.func29, Try.ntmps29
  go_wp2
  go_ret
  exact ⟨rfl, rfl⟩
set_option maxRecDepth 100000 in
set_option maxHeartbeats 8000000 in
theorem heavyA_is (q : AskQ) (w : World) (h : AskQIn w q) : Calls Try.prog 24 #[askQV q] w (HeavyTo (LightQ q) w) := by
  obtain ⟨w1, hw1⟩ : ∃ w1, w1 = w.alloc (.cells (askQC q).toArray 51) := ⟨_, rfl⟩
  obtain ⟨hb1, hsz, hx0⟩ := boxes1 w _ _ hw1
  have HW : Hid (w.alloc (.cells #[.int .i64 q.N, .int .i64 q.L, .slice q.o.A q.o.n q.o.c, .slice q.oi.A q.oi.n q.oi.c, .slice q.oj.A q.oj.n q.oj.c] 51) = w1) := hw1.symm
  have HB := Lib.hid hb1
  have HH := Lib.hid (heavyD_is q.N q.L q.o q.ms w1 (h.d.below hb1))
  have HX := Lib.hid hx0
  have HL : Hid (q.zs.length = q.oi.n ∧ q.ws.length = q.oj.n) := ⟨h.i.len, h.j.len⟩
  have HF : Hid (∀ wX, Below w1.heap.size w1 wX → wX.cell? ⟨w.heap.size, 3, none⟩ = some (.slice q.oi.A q.oi.n q.oi.c) ∧ wX.cell? ⟨w.heap.size, 4, none⟩ = some (.slice q.oj.A q.oj.n q.oj.c)) := fun wX hb => (askQ_cells (HX.out.below hb HX.out.1)).2.2.2
  obtain ⟨d0, d1, d2, d3, d4⟩ := askQ_cells hx0
  have hyes : ∀ wX, Below w.heap.size w wX → HeavyTo (LightQ q) w (.returned (.bool true)) wX := fun wX hb => ⟨true, rfl, (fun h => by cases h), hb⟩
  have HY := Lib.hid hyes
  clear hw1 hb1 hsz hx0 h hyes
  unfold dagV at HH
  unfold askQV
  go_enter Try.func24, Try.ntmps24
  go_upto_region 1 with fail
  rw [HW.out]
  have hls := HL.out
  by_cases h2 : 30 < q.oi.n
  all_goals by_cases h3 : 30 < q.oj.n
  all_goals
    first | (have i2 : (30 : Int) < (q.oi.n : Int) := by omega) | (have i2 : ¬ ((30 : Int) < (q.oi.n : Int)) := by omega)
    first | (have i3 : (30 : Int) < (q.oj.n : Int) := by omega) | (have i3 : ¬ ((30 : Int) < (q.oj.n : Int)) := by omega)
    go_wp2_with (go_at_call 42; refine HH.out.mono ?_; rintro e w2 ⟨b, rfl, hz, hb2⟩; obtain ⟨e3, e4⟩ := HF.out w2 hb2; cases b)
    all_goals try go_wp2_with fail
    all_goals go_ret
    all_goals first
      | exact HY.out _ (HB.out.trans (hb2.mono HB.out.size))
      | (refine ⟨_, rfl, fun h => ?_, HB.out.trans (hb2.mono HB.out.size)⟩
         simp at h
         first | (exfalso; omega) | exact ⟨hz (by simp), by omega, by omega⟩)

/-! ### the waking call -/
def wakeA (k : Nat) : CrtD := ⟨1, k + 1, [], if k = 0 then [] else [(k : Int)], k + 1, [1]⟩
def wakeL : List CrtD := [wakeA 0, wakeA 1, wakeA 2]
theorem wakeL_may : MayG 1 0 wakeL := ⟨by decide, by decide, by decide, by decide, fun i x hx => by
  match i, hx with
  | 0, hx =>
    simp [wakeL] at hx
    subst hx
    exact ⟨by decide +kernel, by decide, fun y h0 => absurd h0 (Nat.lt_irrefl 0), fun k y hk => absurd hk (Nat.not_lt_zero k)⟩
  | 1, hx =>
    simp [wakeL] at hx
    subst hx
    exact ⟨by decide +kernel, by decide, fun y _ hy => by simp [wakeL] at hy; subst hy; decide, fun k y hk hy => by
      match k, hk, hy with
      | 0, _, hy => simp [wakeL] at hy; subst hy; decide⟩
  | 2, hx =>
    simp [wakeL] at hx
    subst hx
    exact ⟨by decide +kernel, by decide, fun y _ hy => by simp [wakeL] at hy; subst hy; decide, fun k y hk hy => by
      match k, hk, hy with
      | 0, _, hy => simp [wakeL] at hy; subst hy; decide
      | 1, _, hy => simp [wakeL] at hy; subst hy; decide⟩
  | i + 3, hx => simp [wakeL] at hx, fun x hx => by
    simp [wakeL] at hx
    rcases hx with rfl | rfl | rfl <;> decide +kernel⟩
theorem wakeL_dir : dirC 1 wakeL 2 = true := by decide +kernel
theorem wakeA_fit : ∀ x ∈ wakeL, CrtFit x := fun x hx => by
  have h1 : I64 1 := by unfold I64; omega
  have h2 : I64 2 := by unfold I64; omega
  have h3 : I64 3 := by unfold I64; omega
  simp [wakeL] at hx
  rcases hx with rfl | rfl | rfl
  · exact ⟨h1, h1, h1, i64s_nil, i64s_nil, fun x hx => by simp [wakeA] at hx; rw [hx]; exact h1, by simp [wakeA], by simp [wakeA], by simp [wakeA]⟩
  · exact ⟨h1, h2, h2, i64s_nil, fun x hx => by simp [wakeA] at hx; rw [hx]; exact h1, fun x hx => by simp [wakeA] at hx; rw [hx]; exact h1, by simp [wakeA], by simp [wakeA], by simp [wakeA]⟩
  · exact ⟨h1, h3, h3, i64s_nil, fun x hx => by simp [wakeA] at hx; rw [hx]; exact h2, fun x hx => by simp [wakeA] at hx; rw [hx]; exact h1, by simp [wakeA], by simp [wakeA], by simp [wakeA]⟩
theorem wakeL_at {k : Nat} (hk : k < 3) : wakeL[k]? = some (wakeA k) := by
  match k, hk with
  | 0, _ => rfl
  | 1, _ => rfl
  | 2, _ => rfl
def zcertA : Value := .agg #[.int .i64 0, .int .i64 0, .slice none 0 0, .slice none 0 0, .int .i64 0, .slice none 0 0]
set_option maxRecDepth 100000 in
set_option maxHeartbeats 8000000 in
theorem wakesA_any (w : World) : Calls Try.prog 30 #[] w fun e w' => e = .returned (.bool true) ∧ Below w.heap.size w w' := by
  obtain ⟨g, hg⟩ : ∃ g, g = w.heap.size := ⟨_, rfl⟩
  obtain ⟨w1, hw1⟩ : ∃ w1, w1 = w.alloc (.cells (dagC 1 0 noAd).toArray 24) := ⟨_, rfl⟩
  obtain ⟨hb1, hsz, hx0⟩ := boxes1 w _ _ hw1
  rw [← hg] at hb1 hsz hx0
  have HG : Hid (w.heap.size = g) := hg.symm
  have HW : Hid (w.alloc (.cells #[.int .i64 1, .int .i64 0, .slice none 0 0] 24) = w1) := hw1.symm
  have HB := Lib.hid hb1
  have HX0 := Lib.hid hx0
  have HSZ : Hid (w1.heap.size = g + 1) := hsz
  obtain ⟨i0, hi0, hz0, hz1, hz2⟩ := info_parts info_zcert
  have HI0 := Lib.hid hi0
  have HZ0 := Lib.hid hz0
  have HZ1 := Lib.hid hz1
  have HZ2 := Lib.hid hz2
  clear hg hw1 hb1 hsz hx0 hi0 hz0 hz1 hz2
  rw [HG.out]
  go_enter Try.func30, Try.ntmps30
  go_upto_region 2 with fail
  rw [HG.out, HW.out]
  go_wp2_with fail
  go_loopw [2] (fun v wr => ∃ (k : Nat) (o' : Ad) (ms' : List (CrtD × CrtA)), v = .int .i64 ((k : Int) + 1) ∧ k ≤ 3 ∧ Hid (o'.n = k) ∧ Hid (ms'.map Prod.fst = wakeL.take k) ∧ Hid (OwnY (g + 1) wr o' ms') ∧ Hid (Box wr g (dagC 1 0 o')) ∧ Hid (Below g w wr)) (fun v _ => 4 - (intOf v).toNat)
  case atStart => exact ⟨0, noAd, [], rfl, by omega, rfl, rfl, ownY_none _ _, HX0.out, HB.out⟩
  case round =>
    obtain ⟨k, o', ms', rfl, hk, HON, HM, HO, HBX, HBB⟩ := hrel
    obtain ⟨d0, d1, d2⟩ := dag_cells HBX.out
    by_cases hlt : k < 3
    · have j0 : (k : Int) + 1 ≤ 3 := by omega
      go_upto_region 6 with fail
      obtain ⟨q, hq⟩ : ∃ q, q = wr.heap.size := ⟨_, rfl⟩
      obtain ⟨w5, hw5⟩ : ∃ w5, w5 = (wr.alloc (.cells [Value.int .i64 1].toArray 3)).alloc (.cells [.int .i64 1, .int .i64 ((k : Int) + 1), .slice none 0 0, .slice none 0 0, .int .i64 ((k : Int) + 1), .slice (some ⟨q, 0, none⟩) 1 1].toArray 37) := ⟨_, rfl⟩
      obtain ⟨hb5, hs5, hy5, hx5⟩ := boxes2 wr _ _ _ _ hw5
      have hS5 : w5.ownsRow q 3 1 (.slice (some ⟨q, 0, none⟩) 1 1) 1 (i64s [1]) := by
        rw [hw5]
        have := one_new wr 1 (Nat.le_refl wr.heap.size)
        rw [← hq] at this
        exact own_below this ((Below.refl _ _).alloc (Nat.le_refl _) _)
      rw [← hq] at hs5 hy5 hx5
      have HQ : Hid (wr.heap.size = q) := hq.symm
      have HW5 : Hid ((wr.alloc (.cells #[.int .i64 1] 3)).alloc (.cells #[.int .i64 1, .int .i64 ((k : Int) + 1), .slice none 0 0, .slice none 0 0, .int .i64 ((k : Int) + 1), .slice (some ⟨q, 0, none⟩) 1 1] 37) = w5) := hw5.symm
      rw [HQ.out, HW5.out]
      have hgq : g < q := by rw [hq]; exact HBX.out.1
      have HB5 : Hid (Below q wr w5) := by show Below q wr w5; rw [hq]; exact hb5
      have HS5 := Lib.hid hS5
      have HX5 := Lib.hid hx5
      have HZ5 : Hid (w5.heap.size = q + 2) := hs5
      have hwq : q ≤ wr.heap.size := by omega
      clear hw5 hb5 hs5 hy5 hS5 hq d0 d1 d2
      by_cases h0 : k = 0
      · have j2 : ¬ ((1 : Int) < (k : Int) + 1) := by omega
        have HXK : Hid (wakeA k = ⟨1, (k : Int) + 1, [], [], (k : Int) + 1, [1]⟩) := by show _ = _; rw [wakeA, if_pos h0]
        have HCN : Hid (CNew q w5 ⟨1, (k : Int) + 1, [], [], (k : Int) + 1, [1]⟩ ⟨noAd, noAd, ⟨some ⟨q, 0, none⟩, 1, 1⟩⟩) :=
          ⟨World.ownsRow_nil _ _ _ _, World.ownsRow_nil _ _ _ _, HS5.out, rfl, rfl, rfl, (fun b hb => by cases hb), (fun b hb => by cases hb), (fun b hb => by cases hb)⟩
        have HX6 := HX5
        have HB6 := HB5
        clear h0 HS5
        go_upto_region 8 with fail
        obtain ⟨X, hX⟩ : ∃ X : CrtD, X = ⟨1, (k : Int) + 1, [], [], (k : Int) + 1, [1]⟩ := ⟨_, rfl⟩
        obtain ⟨aa, haa⟩ : ∃ aa : CrtA, aa = ⟨noAd, noAd, ⟨some ⟨q, 0, none⟩, 1, 1⟩⟩ := ⟨_, rfl⟩
        have HXB : Hid (Box w5 (q + 1) (crtC X aa)) := by rw [hX, haa]; exact HX6.out
        have HXC : Hid (CNew q w5 X aa) := by rw [hX, haa]; exact HCN.out
        have HXW : Hid (wakeA k = X) := by show _ = _; rw [hX]; exact HXK.out
        clear hX haa HX6 HCN HXK
        have hw6s : q ≤ w5.heap.size := by have := HB6.out.size; omega
        have hon2 : o'.n ≤ 1000000 := by have := HON.out; omega
        obtain ⟨x0, x1, x2, x3, x4, x5⟩ := crt_cells HXB.out
        obtain ⟨e0, e1, e2⟩ := dag_cells (HBX.out.below HB6.out hgq)
        have HBX6 : Hid (Box w5 g (dagC 1 0 o')) := HBX.out.below HB6.out hgq
        have HCN6 : Hid (Below wr.heap.size wr w5) := by show Below wr.heap.size wr w5; rw [HQ.out]; exact HB6.out
        go_wp2_with (first
          | (at_builtin; refine wpList_append_lies _ rfl _ _ 22 rfl (g + 1) 37 i0 zcert 6 96 Try.underlying22 HI0.out HZ0.out HZ1.out HZ2.out rfl (by decide) (.slice o'.A o'.n o'.c) o'.n (cellsY ms') rfl (ownS_below HO.out.row (HCN6.out.alloc HCN6.out.size _)) ⟨w5.heap.size, 0, none⟩ 1 1 (crtC X aa) rfl rfl (fun j y hj => by rw [Addr.add_lit, Nat.zero_add]; exact ((box_new w5 (crtC X aa) 37).2 j y hj).1) (fun u hu => List.all_eq_true.1 (show (crtC X aa).all (·.oneCell') = true from rfl) u hu) (by decide) (by unfold maxLen; omega) (by omega) (by simp; omega) _ rfl ?_
             intro g' c' w7 q1 q2 q3 q4
             have hT7 : Touch (fun k => o'.v.ownBlock = some k) w5 w7 := ((Touch.refl (fun k => o'.v.ownBlock = some k) w5).alloc _).on (Touch.grown q2 fun k hk => hk)
             have hbx7 : Box w7 g (dagC 1 0 o') := HBX6.out.touch hT7 (fun e => by have := (own_lt HO.out.row e).2; omega)
             obtain ⟨m2, n2⟩ := hbx7.2 2 _ rfl))
        have hpush := HO.out.push (x := X) (a := aa) (o' := ⟨some ⟨g', 0, none⟩, o'.n + 1, c'⟩) HCN6.out (by rw [HQ.out]; exact HXC.out) (by omega) q2 q1 rfl
        obtain ⟨w8, hw8⟩ : ∃ w8, w8 = w7.setCell ⟨g, 2, none⟩ (.slice (some ⟨g', 0, none⟩) (o'.n + 1) c') := ⟨_, rfl⟩
        have t8 : Touch (fun b => b = g) w7 w8 := by rw [hw8]; exact Touch.set (F := fun b => b = g) (Touch.refl _ _) (.inl rfl) _
        have hx8 : Box w8 g (dagC 1 0 ⟨some ⟨g', 0, none⟩, o'.n + 1, c'⟩) := by rw [hw8]; exact hbx7.set (j := 2) (show 2 < 3 by decide)
        have ho8 := hpush.touch t8 (fun b hb => by have e : b = g := hb; omega)
        have hb7 : Below (g + 1) w5 w7 := hT7.below (fun j hj => (own_lt HO.out.row hj).2) (by omega)
        have hb8 : Below g w w8 := (HBB.out.trans (HCN6.out.mono (by omega))).trans ((hb7.mono (Nat.le_succ g)).trans (t8.below (fun b hb => by have e : b = g := hb; omega) (by have := hb7.size; omega)))
        have HPU := Lib.hid ho8
        have HBX8 := Lib.hid hx8
        have HB8 := Lib.hid hb8
        have HM8 : Hid ((ms' ++ [(X, aa)]).map Prod.fst = wakeL.take (k + 1)) := by
          show _ = _
          rw [List.map_append, HM.out, take_nextY (wakeL_at hlt), HXW.out]
          rfl
        go_roundw
        case rel =>
          rw [← hw8]
          exact ⟨k + 1, ⟨some ⟨g', 0, none⟩, o'.n + 1, c'⟩, ms' ++ [(X, aa)], by go_num, hlt, by show o'.n + 1 = _; rw [HON.out], HM8.out, HPU.out, HBX8.out, HB8.out⟩
        case measure => simp [intOf]; omega
      · have j2 : (1 : Int) < (k : Int) + 1 := by omega
        obtain ⟨x0, x1, x2, x3, x4, x5⟩ := crt_cells (x := ⟨1, (k : Int) + 1, [], [], (k : Int) + 1, [1]⟩) (a := ⟨noAd, noAd, ⟨some ⟨q, 0, none⟩, 1, 1⟩⟩) HX5.out
        have f3 := (HX5.out.2 3 _ rfl).2
        have hal := HX5.out.below ((Below.refl w5.heap.size w5).alloc (Nat.le_refl _) (.cells #[.int .i64 (k : Int)] 3)) HX5.out.1
        have g3 := (hal.2 3 _ rfl).2
        have h3 := (hal.2 3 _ rfl).1
        have HXK : Hid (wakeA k = ⟨1, (k : Int) + 1, [], [(k : Int)], (k : Int) + 1, [1]⟩) := by show _ = _; rw [wakeA, if_neg h0]
        go_upto_region 8 with fail
        clear x0 x1 x2 x3 x4 x5 f3 g3 h3
        obtain ⟨w6, hw6⟩ : ∃ w6, w6 = (w5.alloc (.cells #[.int .i64 (k : Int)] 3)).setCell ⟨q + 1, 3, none⟩ (.slice (some ⟨w5.heap.size, 0, none⟩) 1 1) := ⟨_, rfl⟩
        rw [← hw6]
        have hx6 : Box w6 (q + 1) (crtC ⟨1, (k : Int) + 1, [], [(k : Int)], (k : Int) + 1, [1]⟩ ⟨noAd, ⟨some ⟨w5.heap.size, 0, none⟩, 1, 1⟩, ⟨some ⟨q, 0, none⟩, 1, 1⟩⟩) := by rw [hw6]; exact hal.set (j := 3) (show 3 < 6 by decide)
        have hal5 : Below w5.heap.size w5 (w5.alloc (.cells #[.int .i64 (k : Int)] 3)) := (Below.refl _ _).alloc (Nat.le_refl _) _
        have hcn : CNew q w6 ⟨1, (k : Int) + 1, [], [(k : Int)], (k : Int) + 1, [1]⟩ ⟨noAd, ⟨some ⟨w5.heap.size, 0, none⟩, 1, 1⟩, ⟨some ⟨q, 0, none⟩, 1, 1⟩⟩ := by
          have ht : Touch (fun b => b = q + 1) (w5.alloc (.cells #[.int .i64 (k : Int)] 3)) w6 := by rw [hw6]; exact Touch.set (F := fun b => b = q + 1) (Touch.refl _ _) (.inl rfl) _
          have h5 := HZ5.out
          have hp := one_new w5 (k : Int) (B := q) (by omega)
          have h1 := own_kept hp fun b hb hl => ht.block b hl fun hf => by
            have e : w5.heap.size = b := by simpa [Value.ownBlock] using hb
            have e2 : b = q + 1 := hf
            omega
          have h2 := own_kept (own_below HS5.out hal5) fun b hb hl => ht.block b hl fun hf => by
            have e : q = b := by simpa [Value.ownBlock] using hb
            have e2 : b = q + 1 := hf
            omega
          refine ⟨World.ownsRow_nil _ _ _ _, h1, h2, rfl, rfl, rfl, (fun b hb => by cases hb), (fun b hb => by cases hb), fun b hb hb' => ?_⟩
          have e1 : w5.heap.size = b := by simpa [Ad.v, Value.ownBlock] using hb
          have e2 : q = b := by simpa [Ad.v, Value.ownBlock] using hb'
          omega
        have hb6 : Below q wr w6 := by rw [hw6]; exact (HB5.out.trans (hal5.mono (by have := HZ5.out; omega))).setCell (Nat.le_succ q) _
        have HX6 := Lib.hid hx6
        have HB6 := Lib.hid hb6
        have HCN := Lib.hid hcn
        clear hw6 hx6 hal5 hcn hb6 hal HS5 HX5 HB5 h0
        obtain ⟨X, hX⟩ : ∃ X : CrtD, X = ⟨1, (k : Int) + 1, [], [(k : Int)], (k : Int) + 1, [1]⟩ := ⟨_, rfl⟩
        obtain ⟨aa, haa⟩ : ∃ aa : CrtA, aa = ⟨noAd, ⟨some ⟨w5.heap.size, 0, none⟩, 1, 1⟩, ⟨some ⟨q, 0, none⟩, 1, 1⟩⟩ := ⟨_, rfl⟩
        have HXB : Hid (Box w6 (q + 1) (crtC X aa)) := by rw [hX, haa]; exact HX6.out
        have HXC : Hid (CNew q w6 X aa) := by rw [hX, haa]; exact HCN.out
        have HXW : Hid (wakeA k = X) := by show _ = _; rw [hX]; exact HXK.out
        clear hX haa HX6 HCN HXK
        have hw6s : q ≤ w6.heap.size := by have := HB6.out.size; omega
        have hon2 : o'.n ≤ 1000000 := by have := HON.out; omega
        obtain ⟨x0, x1, x2, x3, x4, x5⟩ := crt_cells HXB.out
        obtain ⟨e0, e1, e2⟩ := dag_cells (HBX.out.below HB6.out hgq)
        have HBX6 : Hid (Box w6 g (dagC 1 0 o')) := HBX.out.below HB6.out hgq
        have HCN6 : Hid (Below wr.heap.size wr w6) := by show Below wr.heap.size wr w6; rw [HQ.out]; exact HB6.out
        go_wp2_with (first
          | (at_builtin; refine wpList_append_lies _ rfl _ _ 22 rfl (g + 1) 37 i0 zcert 6 96 Try.underlying22 HI0.out HZ0.out HZ1.out HZ2.out rfl (by decide) (.slice o'.A o'.n o'.c) o'.n (cellsY ms') rfl (ownS_below HO.out.row (HCN6.out.alloc HCN6.out.size _)) ⟨w6.heap.size, 0, none⟩ 1 1 (crtC X aa) rfl rfl (fun j y hj => by rw [Addr.add_lit, Nat.zero_add]; exact ((box_new w6 (crtC X aa) 37).2 j y hj).1) (fun u hu => List.all_eq_true.1 (show (crtC X aa).all (·.oneCell') = true from rfl) u hu) (by decide) (by unfold maxLen; omega) (by omega) (by simp; omega) _ rfl ?_
             intro g' c' w7 q1 q2 q3 q4
             have hT7 : Touch (fun k => o'.v.ownBlock = some k) w6 w7 := ((Touch.refl (fun k => o'.v.ownBlock = some k) w6).alloc _).on (Touch.grown q2 fun k hk => hk)
             have hbx7 : Box w7 g (dagC 1 0 o') := HBX6.out.touch hT7 (fun e => by have := (own_lt HO.out.row e).2; omega)
             obtain ⟨m2, n2⟩ := hbx7.2 2 _ rfl))
        have hpush := HO.out.push (x := X) (a := aa) (o' := ⟨some ⟨g', 0, none⟩, o'.n + 1, c'⟩) HCN6.out (by rw [HQ.out]; exact HXC.out) (by omega) q2 q1 rfl
        obtain ⟨w8, hw8⟩ : ∃ w8, w8 = w7.setCell ⟨g, 2, none⟩ (.slice (some ⟨g', 0, none⟩) (o'.n + 1) c') := ⟨_, rfl⟩
        have t8 : Touch (fun b => b = g) w7 w8 := by rw [hw8]; exact Touch.set (F := fun b => b = g) (Touch.refl _ _) (.inl rfl) _
        have hx8 : Box w8 g (dagC 1 0 ⟨some ⟨g', 0, none⟩, o'.n + 1, c'⟩) := by rw [hw8]; exact hbx7.set (j := 2) (show 2 < 3 by decide)
        have ho8 := hpush.touch t8 (fun b hb => by have e : b = g := hb; omega)
        have hb7 : Below (g + 1) w6 w7 := hT7.below (fun j hj => (own_lt HO.out.row hj).2) (by omega)
        have hb8 : Below g w w8 := (HBB.out.trans (HCN6.out.mono (by omega))).trans ((hb7.mono (Nat.le_succ g)).trans (t8.below (fun b hb => by have e : b = g := hb; omega) (by have := hb7.size; omega)))
        have HPU := Lib.hid ho8
        have HBX8 := Lib.hid hx8
        have HB8 := Lib.hid hb8
        have HM8 : Hid ((ms' ++ [(X, aa)]).map Prod.fst = wakeL.take (k + 1)) := by
          show _ = _
          rw [List.map_append, HM.out, take_nextY (wakeL_at hlt), HXW.out]
          rfl
        go_roundw
        case rel =>
          rw [← hw8]
          exact ⟨k + 1, ⟨some ⟨g', 0, none⟩, o'.n + 1, c'⟩, ms' ++ [(X, aa)], by go_num, hlt, by show o'.n + 1 = _; rw [HON.out], HM8.out, HPU.out, HBX8.out, HB8.out⟩
        case measure => simp [intOf]; omega
    · obtain rfl : k = 3 := by omega
      have hin : GIn wr o' wakeL := ⟨ms', (HO.out.in_ (fun x hx => wakeA_fit x.1 (by rw [show wakeL = wakeL.take 3 from rfl, ← HM.out]; exact List.mem_map_of_mem hx)) (by rw [HO.out.len]; have := HON.out; omega)), HM.out⟩
      have HDI := Lib.hid (direct_is 1 0 2 o' wakeL wr hin wakeL_may (by decide))
      rw [wakeL_dir] at HDI
      unfold dagV at HDI
      have hgr : g ≤ wr.heap.size := Nat.le_of_lt HBX.out.1
      clear hin hlt hk
      go_wp2_with (first
        | (go_at_call 34; refine HDI.out.mono ?_; rintro e w4 ⟨rfl, hb4⟩)
        | (go_at_call 29; refine (numA_any _ _).mono ?_; rintro e w6 ⟨rfl, rfl⟩))
      go_ret
      exact ⟨rfl, HBB.out.trans (hb4.mono hgr)⟩

end Go.Proofs.Ytejkeccoialogaa
