/-
  slices.Clone of certificates and of numbers.
-/
import Derived.Test.YtejkeccoialogaaSl
import Derived.Test.YtejkeccoialogaaYInsAC
import Derived.Deep.AppendLies
import Derived.Test.YtejkeccoialogaaYMem
namespace Go.Proofs.Ytejkeccoialogaa
open Go.RowKit

theorem info_yint : (Try.prog.info? 3).map (fun i => (i.zero, i.size, i.bytes)) = some (some (.int .i64 0), 1, 8) := by kernel_rfl
/-- a list in memory is handed back as a new one -/
def ClonedY (e s : TypeId) (n : Nat) (xs : List Value) (w : World) (en : Ending) (w' : World) : Prop := ∃ o : Ad, en = .returned o.v ∧ o.n = n ∧ w'.ownsRow w.heap.size e s o.v n xs ∧ Below w.heap.size w w'

set_option maxRecDepth 100000 in
set_option maxHeartbeats 1000000 in
theorem cloneYC_any (a : Ad) (l : Nat) (xs : List Value) (w : World) (h : SlIn w a l xs) (hx : xs.length = l * 6) (h1 : ∀ u ∈ xs, u.oneCell' = true) (hn : l ≤ 1000000) :
    Calls Try.prog 88 #[a.v] w (ClonedY 37 6 l xs w) := by
  obtain ⟨A, n, c⟩ := a
  obtain ⟨hl, hc, hm, hr⟩ := h
  simp only at hl hc hm hr
  subst hl
  unfold Ad.v
  rcases A with _ | ⟨ab, ao, ap⟩
  · have hx0 : xs = [] := by
      rcases Nat.eq_zero_or_pos xs.length with h0 | h0
      · exact List.eq_nil_of_length_eq_zero h0
      · obtain ⟨b, off, he, _⟩ := hr.open_ h0
        cases he
    subst hx0
    obtain rfl : l = 0 := by simp at hx; omega
    have hnil : ∀ w : World, (binOp BinOp.eql 22 (.slice none 0 c) (.slice none 0 0)).run Try.prog w = .ok (.bool true) w := fun w => by kernel_rfl
    go_enter Try.func88, Try.ntmps88
    go_wp2
    go_ret
    exact ⟨noAd, rfl, rfl, World.ownsRow_nil _ _ _ _, Below.refl _ _⟩
  · obtain ⟨i0, hi0, hz0, hz1, hz2⟩ := info_parts info_zcert
    have HX := Lib.hid hx
    have HR := Lib.hid hr
    have H1 := Lib.hid h1
    have HA : ∀ j y, xs[j]? = some y → ∀ wX : World, Below w.heap.size w wX → wX.cell? ((⟨ab, ao, ap⟩ : Addr).add j) = some y := fun j y hj wX hb => by
      obtain ⟨b, off, he, hbl, hcell⟩ := hr.open_ (by have := (List.getElem?_eq_some_iff.1 hj).1; omega)
      cases he
      rw [Addr.add_lit]
      exact (hb.cell (p := ⟨ab, ao + j, none⟩) hbl).trans (hcell j y hj)
    have HC := Lib.hid HA
    clear HA hx hr h1
    have hsom : ∀ w : World, (binOp BinOp.eql 22 (.slice (some ⟨ab, ao, ap⟩) l c) (.slice none 0 0)).run Try.prog w = .ok (.bool false) w := fun w => by kernel_rfl
    go_enter Try.func88, Try.ntmps88
    have HN := ownS_new w w.heap.size 37 6 0 [] (by simp) (by simp [maxLen]) (Nat.le_refl _)
    have HO := Lib.hid HN
    clear HN
    go_wp2_with (at_builtin; refine wpList_append_own _ rfl _ _ 22 rfl w.heap.size 37 i0 _ 6 96 Try.underlying22 hi0 hz0 hz1 hz2 rfl (by decide) _ 0 [] rfl HO.out ⟨ab, ao, ap⟩ l c xs rfl HX.out (fun j y hj => HC.out j y hj _ ((Below.refl _ _).alloc (Nat.le_refl _) _)) H1.out (by unfold maxLen; omega) (by omega) (by simp) ?_)
    intro v' w' hown hg _
    have hb := belowS_own ((Below.refl w.heap.size w).alloc (Nat.le_refl _) _) HO.out hg (by simp)
    obtain ⟨A', c', rfl, _⟩ := ownS_slice hown
    go_wp2
    go_ret
    refine ⟨⟨A', l, c'⟩, by first | rfl | simp [Ad.v], rfl, ?_, hb⟩
    have := ownS_conv (ys := xs) (n' := l) hown (by simp) (by simp)
    first | exact this | simpa [Ad.v] using this

set_option maxRecDepth 100000 in
set_option maxHeartbeats 1000000 in
theorem cloneYN_any (a : Ad) (l : Nat) (xs : List Value) (w : World) (h : SlIn w a l xs) (hx : xs.length = l * 1) (h1 : ∀ u ∈ xs, u.oneCell' = true) (hn : l ≤ 1000000) :
    Calls Try.prog 89 #[a.v] w (ClonedY 3 1 l xs w) := by
  obtain ⟨A, n, c⟩ := a
  obtain ⟨hl, hc, hm, hr⟩ := h
  simp only at hl hc hm hr
  subst hl
  unfold Ad.v
  rcases A with _ | ⟨ab, ao, ap⟩
  · have hx0 : xs = [] := by
      rcases Nat.eq_zero_or_pos xs.length with h0 | h0
      · exact List.eq_nil_of_length_eq_zero h0
      · obtain ⟨b, off, he, _⟩ := hr.open_ h0
        cases he
    subst hx0
    obtain rfl : l = 0 := by simp at hx; omega
    have hnil : ∀ w : World, (binOp BinOp.eql 25 (.slice none 0 c) (.slice none 0 0)).run Try.prog w = .ok (.bool true) w := fun w => by kernel_rfl
    go_enter Try.func89, Try.ntmps89
    go_wp2
    go_ret
    exact ⟨noAd, rfl, rfl, World.ownsRow_nil _ _ _ _, Below.refl _ _⟩
  · obtain ⟨i0, hi0, hz0, hz1, hz2⟩ := info_parts info_yint
    have HX := Lib.hid hx
    have HR := Lib.hid hr
    have H1 := Lib.hid h1
    have HA : ∀ j y, xs[j]? = some y → ∀ wX : World, Below w.heap.size w wX → wX.cell? ((⟨ab, ao, ap⟩ : Addr).add j) = some y := fun j y hj wX hb => by
      obtain ⟨b, off, he, hbl, hcell⟩ := hr.open_ (by have := (List.getElem?_eq_some_iff.1 hj).1; omega)
      cases he
      rw [Addr.add_lit]
      exact (hb.cell (p := ⟨ab, ao + j, none⟩) hbl).trans (hcell j y hj)
    have HC := Lib.hid HA
    clear HA hx hr h1
    have hsom : ∀ w : World, (binOp BinOp.eql 25 (.slice (some ⟨ab, ao, ap⟩) l c) (.slice none 0 0)).run Try.prog w = .ok (.bool false) w := fun w => by kernel_rfl
    go_enter Try.func89, Try.ntmps89
    have HN := ownS_new w w.heap.size 3 1 0 [] (by simp) (by simp [maxLen]) (Nat.le_refl _)
    have HO := Lib.hid HN
    clear HN
    go_wp2_with (at_builtin; refine wpList_append_own _ rfl _ _ 25 rfl w.heap.size 3 i0 _ 1 8 Try.underlying25 hi0 hz0 hz1 hz2 rfl (by decide) _ 0 [] rfl HO.out ⟨ab, ao, ap⟩ l c xs rfl HX.out (fun j y hj => HC.out j y hj _ ((Below.refl _ _).alloc (Nat.le_refl _) _)) H1.out (by unfold maxLen; omega) (by omega) (by simp) ?_)
    intro v' w' hown hg _
    have hb := belowS_own ((Below.refl w.heap.size w).alloc (Nat.le_refl _) _) HO.out hg (by simp)
    obtain ⟨A', c', rfl, _⟩ := ownS_slice hown
    go_wp2
    go_ret
    refine ⟨⟨A', l, c'⟩, by first | rfl | simp [Ad.v], rfl, ?_, hb⟩
    have := ownS_conv (ys := xs) (n' := l) hown (by simp) (by simp)
    first | exact this | simpa [Ad.v] using this

end Go.Proofs.Ytejkeccoialogaa
/-
  Package dag's clone and clones.
-/
namespace Go.Proofs.Ytejkeccoialogaa
open Go.RowKit

theorem size_crt : (Try.prog.info? 37).map (·.size) = some 6 := by kernel_rfl
theorem ad_eta (o : Ad) : (⟨o.A, o.n, o.c⟩ : Ad) = o := rfl

set_option maxRecDepth 100000 in
set_option maxHeartbeats 4000000 in
theorem clone_is (x : CrtD) (a : CrtA) (w : World) (hi : CIn w x a) (hf : CrtFit x) :
    Calls Try.prog 57 #[crtV x a] w fun e w' => ∃ a', e = .returned (crtV x a') ∧ CNew w.heap.size w' x a' ∧ Below w.heap.size w w' := by
  obtain ⟨g, hg⟩ : ∃ g, g = w.heap.size := ⟨_, rfl⟩
  obtain ⟨w1, hw1⟩ : ∃ w1, w1 = (w.alloc (.cells (crtC x a).toArray 37)).alloc (.cells (crtC zeroC6 zeroCA).toArray 37) := ⟨_, rfl⟩
  have hb1 : Below g w w1 := by rw [hw1, hg]; exact ((Below.refl _ _).alloc (Nat.le_refl _) _).alloc (by simp) _
  have hsz : w1.heap.size = g + 2 := by rw [hw1, hg]; simp
  have hbx : Box w1 g (crtC x a) := by
    rw [hw1, hg]
    exact (box_new w (crtC x a) 37).below (B := (w.alloc (.cells (crtC x a).toArray 37)).heap.size) ((Below.refl _ _).alloc (Nat.le_refl _) _) (by simp)
  have hby : Box w1 (g + 1) (crtC zeroC6 zeroCA) := by
    have := box_new (w.alloc (.cells (crtC x a).toArray 37)) (crtC zeroC6 zeroCA) 37
    rw [hw1, hg]
    simpa using this
  have HI : Hid (∀ wX, Below g w wX → CIn wX x a) := fun wX hb => hi.below (by rw [← hg]; exact hb)
  have HF := Lib.hid hf
  have HG : Hid (w.heap.size = g) := hg.symm
  have HW : Hid ((w.alloc (.cells #[.int .i64 x.a, .int .i64 x.r, .slice a.B.A a.B.n a.B.c, .slice a.P.A a.P.n a.P.c, .int .i64 x.d, .slice a.S.A a.S.n a.S.c] 37)).alloc (.cells #[.int .i64 0, .int .i64 0, .slice none 0 0, .slice none 0 0, .int .i64 0, .slice none 0 0] 37) = w1) := hw1.symm
  have hl1 : x.B.length ≤ 1000000 := by have := hf.lB; omega
  have hl2 : x.P.length ≤ 1000000 := by have := hf.lP; omega
  have hl3 : x.S.length ≤ 1000000 := by have := hf.lS; omega
  have HL := Lib.hid (And.intro hl1 (And.intro hl2 hl3))
  clear hw1 hg hi hf hl1 hl2 hl3
  rw [HG.out]
  have hs1 : g + 2 ≤ w1.heap.size := by omega
  have HX := Lib.hid hbx
  have HY := Lib.hid hby
  have HB := Lib.hid hb1
  have HSZ := Lib.hid hs1
  obtain ⟨c0, c1, c2, c3, c4, c5⟩ := crt_cells hbx
  have HIN1 := Lib.hid (HI.out _ hb1).b
  have HP1 : Hid (∀ wX, Below w1.heap.size w1 wX → wX.cell? ⟨g, 2, none⟩ = some (.slice a.B.A a.B.n a.B.c) ∧ wX.frozen? ⟨g, 2, none⟩ = false) := fun wX hb => by
    have := HSZ.out
    have h := HX.out.below hb (by omega)
    exact ⟨(h.2 2 _ rfl).1, (h.2 2 _ rfl).2⟩
  clear hsz hbx hby hb1 hs1
  unfold crtV
  go_enter Try.func57, Try.ntmps57
  go_upto_region 1 with fail
  rw [HG.out, HW.out]
  go_upto_region 2 with (go_at_call 89; refine (cloneYN_any a.B x.B.length (i64s x.B) _ HIN1.out (by rw [i64s_length, Nat.mul_one]) (i64s_one _) HL.out.1).mono ?_; rintro e w2 ⟨⟨A1, n1, q1⟩, rfl, hn1, ho1, hb2⟩; dsimp only [Ad.v]; obtain ⟨f2, fz⟩ := HP1.out w2 hb2)
  -- the first store
  have hz1 := HSZ.out
  obtain ⟨w3, hw3⟩ : ∃ w3, w3 = w2.setCell ⟨g, 2, none⟩ (.slice A1 n1 q1) := ⟨_, rfl⟩
  rw [← hw3]
  have hx3 : Box w3 g (crtC x ⟨⟨A1, n1, q1⟩, a.P, a.S⟩) := by rw [hw3]; exact (HX.out.below hb2 (by omega)).set (j := 2) (show 2 < 6 by decide)
  have hy3 : Box w3 (g + 1) (crtC zeroC6 zeroCA) := by rw [hw3]; exact (HY.out.below hb2 (by omega)).far (by omega)
  have hs3 : w1.heap.size ≤ w3.heap.size := by rw [hw3]; simpa using hb2.size
  have hb3 : Below g w w3 := by rw [hw3]; exact (HB.out.trans (hb2.mono (by omega))).setCell (Nat.le_refl _) _
  have ho3 : w3.ownsRow (g + 2) 3 1 (.slice A1 n1 q1) n1 (i64s x.B) := by
    rw [hw3]
    obtain rfl : n1 = x.B.length := hn1
    exact ownsRow_setCell_below (own_more ho1 (by omega)) (by simp) _
  have HN1 : Hid (x.B.length = n1) := hn1.symm
  have HX3 := Lib.hid hx3
  have HY3 := Lib.hid hy3
  have HB3 := Lib.hid hb3
  have HO3 := Lib.hid ho3
  have HZ3 : Hid (g + 2 ≤ w3.heap.size) := by show _ ≤ _; omega
  have hfar3 : ∀ k, (Value.slice A1 n1 q1).ownBlock = some k → k < w3.heap.size := fun k hk => (own_lt ho3 hk).1
  have HFAR3 := Lib.hid hfar3
  clear c0 c1 c2 c3 c4 c5 f2 fz hw3 hb2 ho1 hn1 hz1 HIN1 HP1
  obtain ⟨c0, c1, c2, c3, c4, c5⟩ := crt_cells hx3
  have HIN2 := Lib.hid (HI.out _ hb3).p
  have HP2 : Hid (∀ wX, Below w3.heap.size w3 wX → wX.cell? ⟨g, 3, none⟩ = some (.slice a.P.A a.P.n a.P.c) ∧ wX.frozen? ⟨g, 3, none⟩ = false) := fun wX hb => by
    have := HZ3.out
    have h := HX3.out.below hb (by omega)
    exact ⟨(h.2 3 _ rfl).1, (h.2 3 _ rfl).2⟩
  clear hx3 hy3 hb3 hs3 ho3 hfar3
  go_upto_region 3 with (go_at_call 89; refine (cloneYN_any a.P x.P.length (i64s x.P) _ HIN2.out (by rw [i64s_length, Nat.mul_one]) (i64s_one _) HL.out.2.1).mono ?_; rintro e w4 ⟨⟨A2, n2, q2⟩, rfl, hn2, ho2, hb4⟩; dsimp only [Ad.v]; obtain ⟨f2, fz⟩ := HP2.out w4 hb4)
  have hz3 := HZ3.out
  obtain ⟨w5, hw5⟩ : ∃ w5, w5 = w4.setCell ⟨g, 3, none⟩ (.slice A2 n2 q2) := ⟨_, rfl⟩
  rw [← hw5]
  have hx5 : Box w5 g (crtC x ⟨⟨A1, n1, q1⟩, ⟨A2, n2, q2⟩, a.S⟩) := by rw [hw5]; exact (HX3.out.below hb4 (by omega)).set (j := 3) (show 3 < 6 by decide)
  have hy5 : Box w5 (g + 1) (crtC zeroC6 zeroCA) := by rw [hw5]; exact (HY3.out.below hb4 (by omega)).far (by omega)
  have hs5 : w3.heap.size ≤ w5.heap.size := by rw [hw5]; simpa using hb4.size
  have hb5 : Below g w w5 := by rw [hw5]; exact (HB3.out.trans (hb4.mono (by omega))).setCell (Nat.le_refl _) _
  have ho5 : w5.ownsRow (g + 2) 3 1 (.slice A1 n1 q1) n1 (i64s x.B) := by rw [hw5]; exact ownsRow_setCell_below (own_below HO3.out hb4) (by simp) _
  have hp5 : w5.ownsRow w3.heap.size 3 1 (.slice A2 n2 q2) n2 (i64s x.P) := by
    rw [hw5]
    obtain rfl : n2 = x.P.length := hn2
    exact ownsRow_setCell_below ho2 (by simp; omega) _
  have HN2 : Hid (x.P.length = n2) := hn2.symm
  have HX5 := Lib.hid hx5
  have HY5 := Lib.hid hy5
  have HB5 := Lib.hid hb5
  have HO5 := Lib.hid ho5
  have HQ5 := Lib.hid hp5
  have HZ5 : Hid (g + 2 ≤ w5.heap.size ∧ w3.heap.size ≤ w5.heap.size) := by show _ ∧ _; omega
  clear c0 c1 c2 c3 c4 c5 f2 fz hw5 hb4 ho2 hn2 hz3 HIN2 HP2
  obtain ⟨c0, c1, c2, c3, c4, c5⟩ := crt_cells hx5
  have HIN3 := Lib.hid (HI.out _ hb5).s
  have HP3 : Hid (∀ wX, Below w5.heap.size w5 wX → wX.cell? ⟨g, 5, none⟩ = some (.slice a.S.A a.S.n a.S.c) ∧ wX.frozen? ⟨g, 5, none⟩ = false) := fun wX hb => by
    have := HZ5.out.1
    have h := HX5.out.below hb (by omega)
    exact ⟨(h.2 5 _ rfl).1, (h.2 5 _ rfl).2⟩
  clear hx5 hy5 hb5 hs5 ho5 hp5
  go_upto_region 4 with (go_at_call 89; refine (cloneYN_any a.S x.S.length (i64s x.S) _ HIN3.out (by rw [i64s_length, Nat.mul_one]) (i64s_one _) HL.out.2.2).mono ?_; rintro e w6 ⟨⟨A3, n3, q3⟩, rfl, hn3, ho3, hb6⟩; dsimp only [Ad.v]; obtain ⟨f2, fz⟩ := HP3.out w6 hb6)
  have hz5 := HZ5.out
  obtain ⟨w7, hw7⟩ : ∃ w7, w7 = w6.setCell ⟨g, 5, none⟩ (.slice A3 n3 q3) := ⟨_, rfl⟩
  rw [← hw7]
  have hx7 : Box w7 g (crtC x ⟨⟨A1, n1, q1⟩, ⟨A2, n2, q2⟩, ⟨A3, n3, q3⟩⟩) := by rw [hw7]; exact (HX5.out.below hb6 (by omega)).set (j := 5) (show 5 < 6 by decide)
  have hy7 : Box w7 (g + 1) (crtC zeroC6 zeroCA) := by rw [hw7]; exact (HY5.out.below hb6 (by omega)).far (by omega)
  have hb7 : Below g w w7 := by rw [hw7]; exact (HB5.out.trans (hb6.mono (by omega))).setCell (Nat.le_refl _) _
  have hs7 : w5.heap.size ≤ w7.heap.size := by rw [hw7]; simpa using hb6.size
  have hnew : CNew (g + 2) w7 x ⟨⟨A1, n1, q1⟩, ⟨A2, n2, q2⟩, ⟨A3, n3, q3⟩⟩ := by
    have oB : w7.ownsRow (g + 2) 3 1 (.slice A1 n1 q1) n1 (i64s x.B) := by rw [hw7]; exact ownsRow_setCell_below (own_below HO5.out hb6) (by simp) _
    have oP : w7.ownsRow w3.heap.size 3 1 (.slice A2 n2 q2) n2 (i64s x.P) := by rw [hw7]; exact ownsRow_setCell_below (own_below HQ5.out hb6) (by simp; have := HZ3.out; omega) _
    have oS : w7.ownsRow w5.heap.size 3 1 (.slice A3 n3 q3) n3 (i64s x.S) := by
      rw [hw7]
      obtain rfl : n3 = x.S.length := hn3
      exact ownsRow_setCell_below ho3 (by simp; omega) _
    have hfB := HFAR3.out
    have hfP : ∀ k, (Value.slice A2 n2 q2).ownBlock = some k → k < w5.heap.size := fun k hk => (own_lt HQ5.out hk).1
    refine ⟨oB, own_more oP HZ3.out, own_more oS hz5.1, HN1.out, HN2.out, hn3.symm, fun k h1 h2 => ?_, fun k h1 h2 => ?_, fun k h1 h2 => ?_⟩
    · have e1 := hfB k h1
      have e2 := (own_lt oP h2).2
      omega
    · have e1 := hfB k h1
      have e2 := (own_lt oS h2).2
      omega
    · have e1 := hfP k h1
      have e2 := (own_lt oS h2).2
      omega
  have HNEW := Lib.hid hnew
  have HB7 := Lib.hid hb7
  have HZ7 : Hid (g + 2 ≤ w7.heap.size) := by show _ ≤ _; omega
  clear c0 c1 c2 c3 c4 c5 f2 fz hw7 hb6 ho3 hn3 hz5 HIN3 HP3 hnew hb7 hs7
  obtain ⟨a', ha'⟩ : ∃ a' : CrtA, a' = ⟨⟨A1, n1, q1⟩, ⟨A2, n2, q2⟩, ⟨A3, n3, q3⟩⟩ := ⟨_, rfl⟩
  go_wp2_with (first
    | (refine wpList_load_box rfl 37 _ rfl g rfl (crtC x ⟨⟨A1, n1, q1⟩, ⟨A2, n2, q2⟩, ⟨A3, n3, q3⟩⟩) hx7 _ Try.underlying37 rfl size_crt ?_)
    | (refine wpList_store_box rfl 37 _ _ rfl (g + 1) 0 (crtC x ⟨⟨A1, n1, q1⟩, ⟨A2, n2, q2⟩, ⟨A3, n3, q3⟩⟩) (crtC zeroC6 zeroCA) (crtC x ⟨⟨A1, n1, q1⟩, ⟨A2, n2, q2⟩, ⟨A3, n3, q3⟩⟩) rfl rfl hy7 (show 0 + 6 ≤ 6 by decide) rfl size_crt rfl ?_))
  intro w8 by8 T8
  have t8 := T8 (fun k => k = g + 1) rfl
  obtain ⟨r0, r1, r2, r3, r4, r5⟩ := crt_cells by8
  have hn8 := HNEW.out.touch t8 (fun k hk hh => by have e : k = g + 1 := hk; have := (HNEW.out.lt hh).2; omega)
  have hb8 : Below g w w8 := HB7.out.trans (t8.below (fun k hk => by have e : k = g + 1 := hk; omega) (by have := HZ7.out; omega))
  go_wp2_with fail
  refine bodyPost_ret (v := crtV x ⟨⟨A1, n1, q1⟩, ⟨A2, n2, q2⟩, ⟨A3, n3, q3⟩⟩) (by simp [results, Try.results57, go_sem, r0, r1, r2, r3, r4, r5, crtV]) rfl ⟨_, rfl, hn8.more (by omega), hb8⟩

/-! ### clones -/
structure MidY (B C : Nat) (w : World) (o : Ad) (ms0 ms : List (CrtD × CrtA)) (k : Nat) : Prop where
  row : w.ownsRow B 37 6 o.v o.n (cellsY ms)
  len : ms.length = o.n
  map : ms.map Prod.fst = ms0.map Prod.fst
  rest : ∀ j, k ≤ j → ms[j]? = ms0[j]?
  sub : ∀ j x, j < k → ms[j]? = some x → CNew C w x.1 x.2
  nod : ∀ i j x y, i < j → j < k → ms[i]? = some x → ms[j]? = some y → ∀ b, x.2.has b → ¬ y.2.has b
section
variable {B C : Nat} {w w1 w2 : World} {o : Ad} {ms0 ms : List (CrtD × CrtA)} {k : Nat} {x : CrtD × CrtA} {a' : CrtA}
theorem midY_start (h : w.ownsRow B 37 6 o.v o.n (cellsY ms0)) (hl : ms0.length = o.n) : MidY B C w o ms0 ms0 0 := ⟨h, hl, rfl, fun _ _ => rfl, fun _ _ hj => absurd hj (Nat.not_lt_zero _), fun _ _ _ _ _ hj => absurd hj (Nat.not_lt_zero _)⟩
theorem MidY.end_ (h : MidY B C w o ms0 ms k) (hk : o.n ≤ k) (hBC : B ≤ C) : OwnY B w o ms ∧ ms.map Prod.fst = ms0.map Prod.fst := by
  refine ⟨⟨h.row, h.len, fun x hx => ?_, ?_⟩, h.map⟩
  · obtain ⟨i, hi⟩ := List.mem_iff_getElem?.1 hx
    exact (h.sub i x (by have := (List.getElem?_eq_some_iff.1 hi).1; have := h.len; omega) hi).more hBC
  · rw [List.pairwise_iff_getElem]
    intro i j hi hj hij
    exact h.nod i j _ _ hij (by have := h.len; omega) (List.getElem?_eq_getElem hi) (List.getElem?_eq_getElem hj)
theorem MidY.step (h : MidY B C w o ms0 ms k) (hC : C ≤ w.heap.size) (hx : ms0[k]? = some x) (hb : Below w.heap.size w w1) (ho : CNew w.heap.size w1 x.1 a')
    (hr : w2.ownsRow B 37 6 o.v o.n (cellsY (ms.set k (x.1, a')))) (ht : Touch (fun b => o.v.ownBlock = some b) w1 w2) : MidY B C w2 o ms0 (ms.set k (x.1, a')) (k + 1) := by
  have hkx : ms[k]? = some x := (h.rest k (Nat.le_refl _)).trans hx
  have hkl : k < ms.length := (List.getElem?_eq_some_iff.1 hkx).1
  have hself : (ms.set k (x.1, a'))[k]? = some (x.1, a') := List.getElem?_set_self hkl
  have hoth : ∀ j, j ≠ k → (ms.set k (x.1, a'))[j]? = ms[j]? := fun j hj => List.getElem?_set_ne (Ne.symm hj)
  have hbo : ∀ b, o.v.ownBlock = some b → ¬ a'.has b := fun b h1 h2 => by
    have := (ho.lt h2).2
    have := (own_lt h.row h1).1
    omega
  have ho2 : CNew C w2 x.1 a' := (ho.touch ht fun b hf => hbo b hf).more hC
  refine ⟨hr, by rw [List.length_set]; exact h.len, ?_, fun j hj => ?_, fun j y hj hy => ?_, fun i j y z hij hj hy hz b hyb hzb => ?_⟩
  · rw [← h.map, List.map_set]
    apply List.ext_getElem?
    intro j
    by_cases hj : k = j
    · subst hj
      rw [List.getElem?_set_self (by rw [List.length_map]; exact hkl), List.getElem?_map, hkx]; rfl
    · rw [List.getElem?_set_ne hj]
  · rw [hoth j (by omega)]; exact h.rest j (by omega)
  · by_cases hjk : j = k
    · subst hjk
      rw [hself] at hy
      cases hy
      exact ho2
    · rw [hoth j hjk] at hy
      have h1 := (h.sub j y (by omega) hy).below hb
      refine h1.touch ht fun b hf hh => ?_
      obtain ⟨cur, e1⟩ := own_typeZ h.row hf
      obtain ⟨cur', e2⟩ := (h.sub j y (by omega) hy).typ hh
      rw [e1] at e2
      cases e2
  · rw [hoth i (by omega)] at hy
    by_cases hjk : j = k
    · subst hjk
      rw [hself] at hz
      cases hz
      have := ((h.sub i y hij hy).lt hyb).1
      have := (ho.lt hzb).2
      omega
    · rw [hoth j hjk] at hz
      exact h.nod i j y z hij (by omega) hy hz b hyb hzb
end
theorem cellsY_set {ms : List (CrtD × CrtA)} {k : Nat} {x : CrtD × CrtA} (a' : CrtA) (h : ms[k]? = some x) : (cellsY ms).take (k * 6) ++ crtC x.1 a' ++ (cellsY ms).drop (k * 6 + 6) = cellsY (ms.set k (x.1, a')) := by
  have hl := (List.getElem?_eq_some_iff.1 h).1
  rw [cellsY_take, show k * 6 + 6 = (k + 1) * 6 by omega, cellsY_drop, List.set_eq_take_append_cons_drop, if_pos hl, cellsY_append]
  rw [List.append_assoc]
  rfl

/-- copies of a row's certificates, the call's own -/
def ClonesTo (l : List CrtD) (w : World) (en : Ending) (w' : World) : Prop := ∃ o' ms', en = .returned (.slice o'.A o'.n o'.c) ∧ OwnY w.heap.size w' o' ms' ∧ ms'.map Prod.fst = l ∧ Below w.heap.size w w'
set_option maxRecDepth 100000 in
set_option maxHeartbeats 4000000 in
theorem clones_is (o : Ad) (l : List CrtD) (w : World) (h : GIn w o l) :
    Calls Try.prog 56 #[.slice o.A o.n o.c] w (ClonesTo l w) := by
  have hfit : ∀ x ∈ l, CrtFit x := fun x hx => h.fit hx
  have hn1 := h.few
  have hlen := h.len
  obtain ⟨ms, h1, h2⟩ := h
  have hcl := cloneYC_any o ms.length (cellsY ms) w h1.row (cellsY_length ms) (cellsY_oneCell ms) h1.few
  have hml : ms.length = o.n := h1.row.len
  rw [hml] at hcl
  have HCL := Lib.hid hcl
  have HSUB : Hid (∀ wX, Below w.heap.size w wX → ∀ x ∈ ms, CIn wX x.1 x.2) := fun wX hb x hx => (h1.sub x hx).below hb
  have HFIT : Hid (∀ x ∈ ms, CrtFit x.1) := fun x hx => hfit x.1 (by rw [← h2]; exact List.mem_map_of_mem hx)
  have HMAP := Lib.hid h2
  have HML := Lib.hid hml
  clear hcl h1 h2 hfit hlen hml
  go_enter Try.func56, Try.ntmps56
  go_upto_region 2 with (go_at_call 88; refine HCL.out.mono ?_; rintro e w1 ⟨⟨A1, n1, q1⟩, rfl, hn, ho, hb1⟩; dsimp only [Ad.v])
  obtain rfl : n1 = o.n := hn
  have HMID : Hid (MidY w.heap.size w1.heap.size w1 ⟨A1, o.n, q1⟩ ms ms 0) := midY_start ho HML.out
  have HB1 := Lib.hid hb1
  clear ho hb1 HCL
  go_wp2_with fail
  go_loopw [8] (fun i wr => ∃ (k : Nat) (mk : List (CrtD × CrtA)), i = .int .i64 k ∧ k ≤ o.n ∧ Hid (MidY w.heap.size w1.heap.size wr ⟨A1, o.n, q1⟩ ms mk k ∧ w1.heap.size ≤ wr.heap.size) ∧ Hid (Below w.heap.size w wr)) (fun i _ => o.n - (intOf i).toNat)
  case atStart => exact ⟨0, ms, rfl, Nat.zero_le _, ⟨HMID.out, Nat.le_refl _⟩, HB1.out⟩
  case round =>
    obtain ⟨k, mk, rfl, hk, HM, HB⟩ := hrel
    by_cases hlt : k < o.n
    · obtain ⟨x, hx⟩ : ∃ x, ms[k]? = some x := ⟨_, List.getElem?_eq_getElem (by rw [HML.out]; exact hlt)⟩
      have hkx : mk[k]? = some x := (HM.out.1.rest k (Nat.le_refl _)).trans hx
      obtain ⟨g, c, hv, hBg, hgl⟩ := HM.out.1.row.form (by show 0 < o.n; omega)
      have hv2 := hv
      simp only [Ad.v, Value.slice.injEq, true_and] at hv2
      obtain ⟨rfl, rfl⟩ := hv2
      have hrow : wr.ownsRow w.heap.size 37 6 (.slice (some ⟨g, 0, none⟩) o.n q1) o.n (cellsY mk) := HM.out.1.row
      have hbox := row_box hrow
      have hce : ∀ j v, (crtC x.1 x.2)[j]? = some v → wr.cell? ⟨g, k * 6 + j, none⟩ = some v := fun j v hv => (hbox.2 _ _ (cellsY_at hkx hv)).1
      have k0 : wr.cell? ⟨g, k * 6, none⟩ = some (.int .i64 x.1.a) := hce 0 _ rfl
      have k1 : wr.cell? ⟨g, k * 6 + 1, none⟩ = some (.int .i64 x.1.r) := hce 1 _ rfl
      have k2 : wr.cell? ⟨g, k * 6 + 2, none⟩ = some (.slice x.2.B.A x.2.B.n x.2.B.c) := hce 2 _ rfl
      have k3 : wr.cell? ⟨g, k * 6 + 3, none⟩ = some (.slice x.2.P.A x.2.P.n x.2.P.c) := hce 3 _ rfl
      have k4 : wr.cell? ⟨g, k * 6 + 4, none⟩ = some (.int .i64 x.1.d) := hce 4 _ rfl
      have k5 : wr.cell? ⟨g, k * 6 + 5, none⟩ = some (.slice x.2.S.A x.2.S.n x.2.S.c) := hce 5 _ rfl
      have HCLO := Lib.hid (clone_is x.1 x.2 wr (HSUB.out _ HB.out x (List.mem_of_getElem? hx)) (HFIT.out x (List.mem_of_getElem? hx)))
      unfold crtV at HCLO
      have HX := Lib.hid hx
      have HKX := Lib.hid hkx
      have HROW := Lib.hid hrow
      have hlx : k * 6 + 6 ≤ (cellsY mk).length := by
        rw [cellsY_length]
        have : k < mk.length := (List.getElem?_eq_some_iff.1 hkx).1
        omega
      have i0 : (0 : Int) ≤ (k : Int) := by omega
      have i1 : (k : Int) < (o.n : Int) := by omega
      clear hx hkx hce hbox hrow hv
      go_wp2_with (first
        | (go_at_call 57; refine HCLO.out.mono ?_; rintro e w3 ⟨a', rfl, hnew, hb3⟩; have hr3 := ownS_below HROW.out hb3)
        | (refine wpList_store_row rfl 37 _ _ rfl w.heap.size o.n q1 g 6 (k * 6) 37 (crtC x.1 a') (cellsY mk) rfl rfl hr3 hlx size_crt rfl ?_; intro w4 hr4 T4))
      have t4 := T4 (fun b => (Value.slice (some ⟨g, 0, none⟩) o.n q1).ownBlock = some b) rfl
      have hr5 : w4.ownsRow w.heap.size 37 6 (.slice (some ⟨g, 0, none⟩) o.n q1) o.n (cellsY (mk.set k (x.1, a'))) := by
        rw [← cellsY_set a' HKX.out]; exact hr4
      have HMID4 : Hid (MidY w.heap.size w1.heap.size w4 ⟨some ⟨g, 0, none⟩, o.n, q1⟩ ms (mk.set k (x.1, a')) (k + 1)) := HM.out.1.step HM.out.2 HX.out hb3 hnew hr5 t4
      have hw1 := HM.out.2
      have hs4 : w1.heap.size ≤ w4.heap.size := by have := hb3.size; have := t4.size; omega
      have HB4 : Hid (Below w.heap.size w w4) := (HB.out.trans (hb3.mono HB.out.size)).trans (t4.below (fun b hb => by cases hb; exact hBg) (by have := HB.out.size; have := hb3.size; omega))
      clear k0 k1 k2 k3 k4 k5 hnew hb3 hr3 hr4 T4 t4 hr5 hlx
      go_wp2_with fail
      go_roundw
      case rel => exact ⟨k + 1, _, by go_num, by omega, ⟨HMID4.out, hs4⟩, HB4.out⟩
      case measure => simp [intOf]; omega
    · obtain rfl : k = o.n := by omega
      have i1 : ¬ ((o.n : Int) < (o.n : Int)) := by omega
      clear hlt
      have hend := HM.out.1.end_ (Nat.le_refl _) HB1.out.size
      have HE := Lib.hid hend
      clear hend
      go_wp2_with fail
      go_ret
      exact ⟨⟨A1, o.n, q1⟩, mk, rfl, HE.out.1, HE.out.2.trans HMAP.out, HB.out⟩

end Go.Proofs.Ytejkeccoialogaa
