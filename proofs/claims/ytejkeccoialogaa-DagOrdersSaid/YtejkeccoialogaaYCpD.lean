/-
  The page's copies of a certificate, a row of them, a graph.
-/
import Derived.Test.YtejkeccoialogaaYAddB
import Derived.Test.YtejkeccoialogaaHCpA
import Derived.Deep.AppendLies
import Derived.Test.YtejkeccoialogaaHEqC
import Derived.Test.YtejkeccoialogaaCalm
namespace Go.Proofs.Ytejkeccoialogaa
open Go.RowKit

/-- a copy of the call's own, each of its lists apart -/
def CopyNew (x : CrtD) (w : World) (en : Ending) (w' : World) : Prop := ∃ a', en = .returned (crtV x a') ∧ CNew w.heap.size w' x a' ∧ Below w.heap.size w w'
theorem copyCN_is (x : CrtD) (a : CrtA) (w : World) (hi : CIn w x a) (hf : CrtFit x) : Calls Try.prog 14 #[crtV x a] w (CopyNew x w) := by
  have l1 := hf.lB
  have l2 := hf.lP
  have l3 := hf.lS
  have e1 := hi.b.len
  have e2 := hi.p.len
  have e3 := hi.s.len
  refine (rcopyCertA_any x.a x.r a.B.A a.B.c a.B.n x.B a.P.A a.P.c a.P.n x.P x.d a.S.A a.S.c a.S.n x.S w e1 hi.b.rd (by omega) e2 hi.p.rd (by omega) e3 hi.s.rd (by omega) hi.b.cap hi.p.cap hi.s.cap).mono ?_
  rintro e w' ⟨AB', cB', AP', cP', AS', cS', rfl, ob, op, os, hb, h1, h2, h3⟩
  exact ⟨⟨⟨AB', a.B.n, cB'⟩, ⟨AP', a.P.n, cP'⟩, ⟨AS', a.S.n, cS'⟩⟩, rfl, ⟨ob, op, os, e1, e2, e3, h1, h2, h3⟩, hb⟩
/-- one more behind a row -/
theorem OwnY.push {B : Nat} {w w1 w2 : World} {o o' : Ad} {ms : List (CrtD × CrtA)} {x : CrtD} {a : CrtA} {b : Obj} (h : OwnY B w o ms) (hb : Below w.heap.size w w1) (ho : CNew w.heap.size w1 x a) (hB : B ≤ w.heap.size)
    (hg : (w1.alloc b).grownBy w2 o.v.ownBlock) (hr : w2.ownsRow B 37 6 o'.v o'.n (cellsY ms ++ crtC x a)) (hn : o'.n = o.n + 1) : OwnY B w2 o' (ms ++ [(x, a)]) := by
  have hT : Touch (fun k => o.v.ownBlock = some k) w1 w2 := ((Touch.refl (fun k => o.v.ownBlock = some k) w1).alloc b).on (Touch.grown hg fun k hk => hk)
  have hins := h.ins (x := x) (a := a) (i := ms.length) (o' := o') hb ho hB hT (by
    rw [putInC, List.take_of_length_le (by rw [cellsY_length]; exact Nat.le_refl _), List.drop_of_length_le (by rw [cellsY_length]; exact Nat.le_refl _), List.append_nil]
    exact hr) hn (Nat.le_refl _)
  rw [insY, List.take_length, List.drop_length] at hins
  exact hins
theorem take_nextY {l : List CrtD} {k : Nat} {x : CrtD} (h : l[k]? = some x) : l.take (k + 1) = l.take k ++ [x] := by rw [List.take_add_one, h]; rfl

set_option maxRecDepth 100000 in
set_option maxHeartbeats 8000000 in
theorem copyCerts_is (o : Ad) (l : List CrtD) (w : World) (h : GIn w o l) :
    Calls Try.prog 23 #[.slice o.A o.n o.c] w (ClonesTo l w) := by
  have hn1 := h.few
  have HLEN : Hid (l.length = o.n) := h.len
  have HGET : Hid (∀ (i : Nat) (x : CrtD), l[i]? = some x → ∃ (b off : Nat) (a : CrtA), o.A = some ⟨b, off, none⟩ ∧ b < w.heap.size ∧ CrtFit x ∧ ∀ wX, Below w.heap.size w wX → CrtAt wX b off i x a) := fun i x hx => h.get hx
  obtain ⟨i0, hi0, hz0, hz1, hz2⟩ := info_parts info_zcert
  have HI0 := Lib.hid hi0
  have HZ0 := Lib.hid hz0
  have HZ1 := Lib.hid hz1
  have HZ2 := Lib.hid hz2
  obtain ⟨A, n, c⟩ := o
  dsimp only at hn1 HLEN HGET ⊢
  clear h hi0 hz0 hz1 hz2
  go_enter Try.func23, Try.ntmps23
  go_wp2_with fail
  go_loopw [3, 4] (fun v i wr => ∃ (k : Nat) (o' : Ad) (ms' : List (CrtD × CrtA)), i = .int .i64 k ∧ v = .slice o'.A o'.n o'.c ∧ k ≤ n ∧ Hid (o'.n = k) ∧ Hid (ms'.map Prod.fst = l.take k) ∧ Hid (OwnY w.heap.size wr o' ms') ∧ Hid (Below w.heap.size w wr)) (fun _ i _ => n - (intOf i).toNat)
  case atStart => exact ⟨0, noAd, [], rfl, rfl, Nat.zero_le _, rfl, rfl, ownY_none _ _, Below.refl _ _⟩
  case round =>
    obtain ⟨k, o', ms', rfl, rfl, hk, HOK, HM, HO, HB⟩ := hrel
    have i0' : (0 : Int) ≤ (k : Int) := by omega
    by_cases hlt : k < n
    · have i1 : (k : Int) < (n : Int) := by omega
      obtain ⟨x, hx⟩ : ∃ x, l[k]? = some x := ⟨_, List.getElem?_eq_getElem (by rw [HLEN.out]; exact hlt)⟩
      obtain ⟨b, off, a, rfl, hbl, hfit, hce⟩ := HGET.out k x hx
      obtain ⟨k0, k1, k2, k3, k4, k5, hcin⟩ := hce wr HB.out
      have HCN := Lib.hid (copyCN_is x a wr hcin hfit)
      have HP1 : Hid (l.take (k + 1) = ms'.map Prod.fst ++ [x]) := by show _ = _; rw [take_nextY hx, HM.out]
      have hwB := HB.out.size
      have hon : o'.n ≤ 1000000 := by have := HOK.out; omega
      unfold crtV at HCN
      clear hx hce hcin hfit
      go_upto_region 5 with fail
      go_wp2_with (first
        | (go_at_call 14; refine HCN.out.mono ?_
           rintro e w4 ⟨a4, rfl, hn4, hb4⟩
           dsimp only [crtV]
           have HN4 := Lib.hid hn4
           have HB4 := Lib.hid hb4
           have hz4 := hb4.size)
        | (at_builtin; refine wpList_append_lies _ rfl _ _ 22 rfl w.heap.size 37 i0 zcert 6 96 Try.underlying22 HI0.out HZ0.out HZ1.out HZ2.out rfl (by decide) (.slice o'.A o'.n o'.c) o'.n (cellsY ms') rfl (ownS_below HO.out.row (HB4.out.alloc hz4 _)) ⟨w4.heap.size, 0, none⟩ 1 1 (crtC x a4) rfl rfl (fun j y hj => by rw [Addr.add_lit, Nat.zero_add]; exact ((box_new w4 (crtC x a4) 37).2 j y hj).1) (fun u hu => List.all_eq_true.1 (show (crtC x a4).all (·.oneCell') = true from rfl) u hu) (by decide) (by unfold maxLen; omega) (by omega) (by simp; omega) _ rfl ?_
           intro g' c' w5 q1 q2 q3 q4))
      have hpush := HO.out.push (x := x) (a := a4) (o' := ⟨some ⟨g', 0, none⟩, o'.n + 1, c'⟩) HB4.out HN4.out hwB q2 q1 rfl
      have hb5 : Below w.heap.size w w5 := (HB.out.trans (HB4.out.mono hwB)).trans ((((Touch.refl (fun k => o'.v.ownBlock = some k) w4).alloc _).on (Touch.grown q2 fun k hk => hk)).below (fun j hj => (own_lt HO.out.row hj).2) (by omega))
      have HPU := Lib.hid hpush
      have HB5 := Lib.hid hb5
      clear q1 q2 q3 q4 hpush hb5
      go_wp2_with fail
      go_roundw
      case rel => exact ⟨k + 1, ⟨some ⟨g', 0, none⟩, o'.n + 1, c'⟩, ms' ++ [(x, a4)], by go_num, rfl, by omega, by show o'.n + 1 = _; rw [HOK.out], by show _ = _; rw [HP1.out, List.map_append]; rfl, HPU.out, HB5.out⟩
      case measure => simp [intOf]; omega
    · have i1 : ¬ ((k : Int) < (n : Int)) := by omega
      have HM2 : Hid (ms'.map Prod.fst = l) := by
        have := HM.out
        rwa [List.take_of_length_le (by rw [HLEN.out]; omega)] at this
      go_wp2_with fail
      go_ret
      exact ⟨o', ms', rfl, HO.out, HM2.out, HB.out⟩

/-- a graph of the call's own -/
def CopyDagTo (N L : Int) (l : List CrtD) (w : World) (en : Ending) (w' : World) : Prop := ∃ o' ms', en = .returned (dagV N L o') ∧ OwnY w.heap.size w' o' ms' ∧ ms'.map Prod.fst = l ∧ Below w.heap.size w w'
set_option maxRecDepth 100000 in
set_option maxHeartbeats 4000000 in
theorem copyDag_is (N L : Int) (o : Ad) (l : List CrtD) (w : World) (h : GIn w o l) :
    Calls Try.prog 11 #[dagV N L o] w (CopyDagTo N L l w) := by
  obtain ⟨g, hg⟩ : ∃ g, g = w.heap.size := ⟨_, rfl⟩
  obtain ⟨w1, hw1⟩ : ∃ w1, w1 = ((w.alloc (.cells (dagC N L o).toArray 24)).alloc (.cells (dagC 0 0 noAd).toArray 24)).alloc (.cells (dagC N L o).toArray 24) := ⟨_, rfl⟩
  obtain ⟨hb1, hsz, hx0, hx1, hx2⟩ := boxes3 w _ _ _ _ _ _ hw1
  rw [← hg] at hb1 hsz hx0 hx1 hx2
  have HG : Hid (w.heap.size = g) := hg.symm
  have HW : Hid (((w.alloc (.cells #[.int .i64 N, .int .i64 L, .slice o.A o.n o.c] 24)).alloc (.cells #[.int .i64 0, .int .i64 0, .slice none 0 0] 24)).alloc (.cells #[.int .i64 N, .int .i64 L, .slice o.A o.n o.c] 24) = w1) := hw1.symm
  have HB := Lib.hid hb1
  have HX1 := Lib.hid hx1
  have HX2 := Lib.hid hx2
  have HCC := Lib.hid (copyCerts_is o l w1 (h.below (by rw [← hg]; exact hb1)))
  obtain ⟨d0, d1, d2⟩ := dag_cells hx0
  have HS : Hid (w1.heap.size = g + 3) := hsz
  clear hg hw1 hb1 hsz hx0 hx1 hx2 h
  unfold dagV
  go_enter Try.func11, Try.ntmps11
  go_upto_region 2 with fail
  rw [HG.out, HW.out]
  have HFZ : Hid (∀ wX, Below w1.heap.size w1 wX → wX.cell? ⟨g + 1 + 1, 2, none⟩ = some (.slice o.A o.n o.c) ∧ wX.frozen? ⟨g + 1 + 1, 2, none⟩ = false) := fun wX hb => by
    have := HX2.out.below hb HX2.out.1
    exact this.2 2 _ rfl
  go_upto_region 3 with (go_at_call 23; refine HCC.out.mono ?_; rintro e w2 ⟨⟨A2, n2, c2⟩, ms2, rfl, ho2, hm2, hb2⟩; obtain ⟨f2, fz⟩ := HFZ.out w2 hb2)
  obtain ⟨w3, hw3⟩ : ∃ w3, w3 = w2.setCell ⟨g + 1 + 1, 2, none⟩ (.slice A2 n2 c2) := ⟨_, rfl⟩
  have HW3 : Hid (w2.setCell ⟨g + 1 + 1, 2, none⟩ (.slice A2 n2 c2) = w3) := hw3.symm
  rw [HW3.out]
  have hs1 := HS.out
  have hx3 : Box w3 (g + 1 + 1) (dagC N L ⟨A2, n2, c2⟩) := by rw [hw3]; exact (HX2.out.below hb2 HX2.out.1).set (j := 2) (show 2 < 3 by decide)
  have hy3 : Box w3 (g + 1) (dagC 0 0 noAd) := by rw [hw3]; exact (HX1.out.below hb2 HX1.out.1).far (by omega)
  have hb3 : Below g w w3 := by rw [hw3]; exact (HB.out.trans (hb2.mono (by omega))).setCell (by show g ≤ g + 1 + 1; omega) _
  have ht3 : Touch (fun k => k = g + 1 + 1) w2 w3 := by rw [hw3]; exact Touch.set (F := fun k => k = g + 1 + 1) (Touch.refl _ _) (.inl rfl) _
  have ho3 : OwnY w1.heap.size w3 ⟨A2, n2, c2⟩ ms2 := ho2.touch ht3 (fun k hk => by have e : k = g + 1 + 1 := hk; omega)
  have hs3 : g + 3 ≤ w3.heap.size := by have := hb2.size; have := ht3.size; omega
  clear f2 fz hw3 d0 d1 d2 hs1
  go_wp2_with (first
    | (refine wpList_load_box rfl 24 _ rfl (g + 1 + 1) rfl (dagC N L ⟨A2, n2, c2⟩) hx3 _ Try.underlying24 rfl size_dag ?_)
    | (refine wpList_store_box rfl 24 _ _ rfl (g + 1) 0 (dagC N L ⟨A2, n2, c2⟩) (dagC 0 0 noAd) (dagC N L ⟨A2, n2, c2⟩) rfl rfl hy3 (show 0 + 3 ≤ 3 by decide) rfl size_dag rfl ?_))
  intro w9 by9 T9
  have t9 := T9 (fun k => k = g + 1) rfl
  obtain ⟨r0, r1, r2⟩ := dag_cells by9
  have hb9 : Below g w w9 := hb3.trans (t9.below (fun k hk => by have e : k = g + 1 := hk; omega) (by omega))
  have ho9 : OwnY w1.heap.size w9 ⟨A2, n2, c2⟩ ms2 := ho3.touch t9 (fun k hk => by have e : k = g + 1 := hk; have := HS.out; omega)
  go_wp2_with fail
  refine bodyPost_ret (v := dagV N L ⟨A2, n2, c2⟩) (by simp [results, Try.results11, go_sem, r0, r1, r2, dagV]) rfl ⟨⟨A2, n2, c2⟩, ms2, rfl, ho9.more (by rw [HG.out]; have := HS.out; omega), hm2, ?_⟩
  rw [HG.out]
  exact hb9

end Go.Proofs.Ytejkeccoialogaa
/-
  Whether two rows of certificates, two graphs are the same, by the page.
-/
namespace Go.Proofs.Ytejkeccoialogaa
open Go.RowKit

theorem crt_ext {x y : CrtD} : x = y ↔ (x.a = y.a ∧ x.r = y.r ∧ x.B = y.B ∧ x.P = y.P) ∧ x.d = y.d ∧ x.S = y.S := by
  constructor
  · rintro rfl; exact ⟨⟨rfl, rfl, rfl, rfl⟩, rfl, rfl⟩
  · obtain ⟨a, r, B, P, d, S⟩ := x
    obtain ⟨a', r', B', P', d', S'⟩ := y
    rintro ⟨⟨h1, h2, h3, h4⟩, h5, h6⟩
    dsimp only at *
    subst h1 h2 h3 h4 h5 h6
    rfl
theorem eqC_is (x y : CrtD) (a a' : CrtA) (w : World) (hi : CIn w x a) (hf : CrtFit x) (hj : CIn w y a') (hg : CrtFit y) :
    Calls Try.prog 18 #[crtV x a, crtV y a'] w (Tells w.heap.size w (.bool (decide (x = y)))) := by
  have l1 := hf.lB
  have l2 := hf.lP
  have l3 := hf.lS
  have e1 := hi.b.len
  have e2 := hi.p.len
  have e3 := hi.s.len
  have m1 := hg.lB
  have m2 := hg.lP
  have m3 := hg.lS
  have f1 := hj.b.len
  have f2 := hj.p.len
  have f3 := hj.s.len
  have he : eqCer x.a x.r x.B x.P x.d x.S y.a y.r y.B y.P y.d y.S = decide (x = y) := by
    rw [Bool.eq_iff_iff, eqCer, decide_eq_true_eq, decide_eq_true_eq, crt_ext]
  exact reqCer_is _ x.a x.r a.B.A a.B.c a.B.n x.B a.P.A a.P.c a.P.n x.P x.d a.S.A a.S.c a.S.n x.S y.a y.r a'.B.A a'.B.c a'.B.n y.B a'.P.A a'.P.c a'.P.n y.P y.d a'.S.A a'.S.c a'.S.n y.S w he
    e1 hi.b.rd (by omega) e2 hi.p.rd (by omega) e3 hi.s.rd (by omega) f1 hj.b.rd (by omega) f2 hj.p.rd (by omega) f3 hj.s.rd (by omega)

set_option maxRecDepth 100000 in
set_option maxHeartbeats 4000000 in
theorem eqCerts_is (o o' : Ad) (l l' : List CrtD) (w : World) (h : GIn w o l) (h' : GIn w o' l') :
    Calls Try.prog 58 #[.slice o.A o.n o.c, .slice o'.A o'.n o'.c] w (Tells w.heap.size w (.bool (decide (l = l')))) := by
  have hn1 := h.few
  have hn1' := h'.few
  have HLEN : Hid (l.length = o.n) := h.len
  have HLEN' : Hid (l'.length = o'.n) := h'.len
  have HGET : Hid (∀ (i : Nat) (x : CrtD), l[i]? = some x → ∃ (b off : Nat) (a : CrtA), o.A = some ⟨b, off, none⟩ ∧ b < w.heap.size ∧ CrtFit x ∧ ∀ wX, Below w.heap.size w wX → CrtAt wX b off i x a) := fun i x hx => h.get hx
  have HGET' : Hid (∀ (i : Nat) (x : CrtD), l'[i]? = some x → ∃ (b off : Nat) (a : CrtA), o'.A = some ⟨b, off, none⟩ ∧ b < w.heap.size ∧ CrtFit x ∧ ∀ wX, Below w.heap.size w wX → CrtAt wX b off i x a) := fun i x hx => h'.get hx
  obtain ⟨A, n, c⟩ := o
  obtain ⟨A', n', c'⟩ := o'
  dsimp only at hn1 hn1' HLEN HLEN' HGET HGET' ⊢
  clear h h'
  by_cases hnn : n = n'
  · subst hnn
    go_enter Try.func58, Try.ntmps58
    go_wp2_with fail
    go_loopw [5] (fun i wr => ∃ k : Nat, i = .int .i64 k ∧ k ≤ n ∧ Hid (l.take k = l'.take k) ∧ Hid (Below w.heap.size w wr)) (fun i _ => n - (intOf i).toNat)
    case atStart => exact ⟨0, rfl, Nat.zero_le _, by show _ = _; simp, Below.refl _ _⟩
    case round =>
      obtain ⟨k, rfl, hk, HT, HB⟩ := hrel
      have i0 : (0 : Int) ≤ (k : Int) := by omega
      by_cases hlt : k < n
      · have i1 : (k : Int) < (n : Int) := by omega
        obtain ⟨x, hx⟩ : ∃ x, l[k]? = some x := ⟨_, List.getElem?_eq_getElem (by rw [HLEN.out]; exact hlt)⟩
        obtain ⟨y, hy⟩ : ∃ y, l'[k]? = some y := ⟨_, List.getElem?_eq_getElem (by rw [HLEN'.out]; exact hlt)⟩
        obtain ⟨b, off, a, rfl, hbl, hfit, hce⟩ := HGET.out k x hx
        obtain ⟨b', off', a', rfl, hbl', hfit', hce'⟩ := HGET'.out k y hy
        have HX := Lib.hid hx
        have HY := Lib.hid hy
        have HC1 : Hid (∀ wX, Below w.heap.size w wX → CrtAt wX b off k x a) := hce
        have HC2 : Hid (∀ wX, Below w.heap.size w wX → CrtAt wX b' off' k y a') := hce'
        have hq : ∀ z : Calm wr, Calls Try.prog 18 #[crtV x a, crtV y a'] z.val (Tells z.val.heap.size z.val (.bool (decide (x = y)))) := fun z => by
          have hb' := HB.out.trans (z.ok.mono HB.out.size)
          exact eqC_is x y a a' z.val (HC1.out _ hb').in_ hfit (HC2.out _ hb').in_ hfit'
        unfold crtV at hq
        obtain ⟨v, hv⟩ : ∃ v, v = decide (x = y) := ⟨_, rfl⟩
        rw [← hv] at hq
        have HV := Lib.hid hv
        have HQ := Lib.hid hq
        clear hx hy hce hce' hfit hfit' hv hq
        go_upto_region 6 with fail
        have p0 : ∀ z : Calm wr, _ := fun z => (HC1.out z.val (HB.out.trans (z.ok.mono HB.out.size))).c0
        have p1 : ∀ z : Calm wr, _ := fun z => (HC1.out z.val (HB.out.trans (z.ok.mono HB.out.size))).c1
        have p2 : ∀ z : Calm wr, _ := fun z => (HC1.out z.val (HB.out.trans (z.ok.mono HB.out.size))).c2
        have p3 : ∀ z : Calm wr, _ := fun z => (HC1.out z.val (HB.out.trans (z.ok.mono HB.out.size))).c3
        have p4 : ∀ z : Calm wr, _ := fun z => (HC1.out z.val (HB.out.trans (z.ok.mono HB.out.size))).c4
        have p5 : ∀ z : Calm wr, _ := fun z => (HC1.out z.val (HB.out.trans (z.ok.mono HB.out.size))).c5
        have q0 : ∀ z : Calm wr, _ := fun z => (HC2.out z.val (HB.out.trans (z.ok.mono HB.out.size))).c0
        have q1 : ∀ z : Calm wr, _ := fun z => (HC2.out z.val (HB.out.trans (z.ok.mono HB.out.size))).c1
        have q2 : ∀ z : Calm wr, _ := fun z => (HC2.out z.val (HB.out.trans (z.ok.mono HB.out.size))).c2
        have q3 : ∀ z : Calm wr, _ := fun z => (HC2.out z.val (HB.out.trans (z.ok.mono HB.out.size))).c3
        have q4 : ∀ z : Calm wr, _ := fun z => (HC2.out z.val (HB.out.trans (z.ok.mono HB.out.size))).c4
        have q5 : ∀ z : Calm wr, _ := fun z => (HC2.out z.val (HB.out.trans (z.ok.mono HB.out.size))).c5
        refine wp_region_calm (by kernel_rfl) (by kernel_rfl) ?_
        repeat (go_big_quiet_step ((go_at_call 18; exact calm_tells (HQ.out _))))
        refine wpQuiet_nil ?_
        rintro _ ⟨z, rfl⟩
        obtain ⟨w6, hwz⟩ : ∃ wz, wz = z.val := ⟨_, rfl⟩
        have hb6 : Below w.heap.size w w6 := by rw [hwz]; exact HB.out.trans (z.ok.mono HB.out.size)
        rw [← hwz]
        have HB6 := Lib.hid hb6
        clear hwz z p0 p1 p2 p3 p4 p5 q0 q1 q2 q3 q4 q5 hb6
        cases v with
        | true =>
          have HE : Hid (x = y) := by have := HV.out; show _ = _; simpa using this.symm
          have HT2 : Hid (l.take (k + 1) = l'.take (k + 1)) := by show _ = _; rw [List.take_add_one, List.take_add_one, HX.out, HY.out, HT.out, HE.out]
          go_wp2_with fail
          go_roundw
          case rel => exact ⟨k + 1, by go_num, hlt, HT2.out, HB6.out⟩
          case measure => simp [intOf]; omega
        | false =>
          have HE : Hid (decide (l = l') = false) := by
            show _ = _
            rw [decide_eq_false_iff_not]
            intro e
            have h1 := HX.out
            rw [e, HY.out] at h1
            cases h1
            have := HV.out
            simp at this
          go_wp2_with fail
          go_ret
          exact ⟨by rw [HE.out]; rfl, HB6.out⟩
      · obtain rfl : k = n := by omega
        have i1 : ¬ ((k : Int) < (k : Int)) := by omega
        have HE : Hid (decide (l = l') = true) := by
          show _ = _
          rw [decide_eq_true_eq]
          have := HT.out
          rwa [List.take_of_length_le (by rw [HLEN.out]; exact Nat.le_refl _), List.take_of_length_le (by rw [HLEN'.out]; exact Nat.le_refl _)] at this
        clear hlt
        go_wp2_with fail
        go_ret
        exact ⟨by rw [HE.out]; rfl, HB.out⟩
  · have j1 : ((n : Int) == (n' : Int)) = false := by simp; omega
    have j2 : ((n : Int) != (n' : Int)) = true := by simp; omega
    have j3 : ¬ ((n : Int) = (n' : Int)) := by omega
    have HE : Hid (decide (l = l') = false) := by
      show _ = _
      rw [decide_eq_false_iff_not]
      intro e
      exact hnn (by rw [← HLEN.out, ← HLEN'.out, e])
    go_enter Try.func58, Try.ntmps58
    go_wp2_with fail
    go_ret
    exact ⟨by rw [HE.out]; rfl, Below.refl _ _⟩

set_option maxRecDepth 100000 in
set_option maxHeartbeats 4000000 in
theorem eqDag_is (N L : Int) (o : Ad) (l : List CrtD) (N' L' : Int) (o' : Ad) (l' : List CrtD) (w : World) (h : GIn w o l) (h' : GIn w o' l') :
    Calls Try.prog 17 #[dagV N L o, dagV N' L' o'] w (Tells w.heap.size w (.bool (decide (N = N' ∧ L = L' ∧ l = l')))) := by
  obtain ⟨g, hg⟩ : ∃ g, g = w.heap.size := ⟨_, rfl⟩
  obtain ⟨w1, hw1⟩ : ∃ w1, w1 = (w.alloc (.cells (dagC N L o).toArray 24)).alloc (.cells (dagC N' L' o').toArray 24) := ⟨_, rfl⟩
  obtain ⟨hb1, hsz, hx0, hx1⟩ := boxes2 w _ _ _ _ hw1
  rw [← hg] at hb1 hsz hx0 hx1
  have HG : Hid (w.heap.size = g) := hg.symm
  have HW : Hid ((w.alloc (.cells #[.int .i64 N, .int .i64 L, .slice o.A o.n o.c] 24)).alloc (.cells #[.int .i64 N', .int .i64 L', .slice o'.A o'.n o'.c] 24) = w1) := hw1.symm
  have HB := Lib.hid hb1
  have HS : Hid (g ≤ w1.heap.size) := by show _ ≤ _; omega
  have hq := eqCerts_is o o' l l' w1 (h.below (by rw [← hg]; exact hb1)) (h'.below (by rw [← hg]; exact hb1))
  obtain ⟨v, hv⟩ : ∃ v, v = decide (l = l') := ⟨_, rfl⟩
  rw [← hv] at hq
  have HQ := Lib.hid hq
  have HE : Hid (decide (N = N' ∧ L = L' ∧ l = l') = (decide (N = N') && (decide (L = L') && v))) := by
    show _ = _
    rw [hv, Bool.decide_and, Bool.decide_and]
  obtain ⟨d0, d1, d2⟩ := dag_cells hx0
  obtain ⟨e0, e1, e2⟩ := dag_cells hx1
  clear hg hw1 hb1 hsz hx0 hx1 h h' hq hv
  unfold dagV
  rw [HE.out, HG.out]
  by_cases h1 : N = N'
  · subst h1
    by_cases h2 : L = L'
    · subst h2
      go_enter Try.func17, Try.ntmps17
      go_upto_region 1 with fail
      rw [HG.out, HW.out]
      go_wp2_with (go_at_call 58; refine HQ.out.mono ?_; rintro e w4 ⟨rfl, hb4⟩)
      go_ret
      exact ⟨by simp, HB.out.trans (hb4.mono HS.out)⟩
    · have j1 : (L == L') = false := by simp [h2]
      have HV : Hid (decide (L = L') = false) := by show _ = _; simp [h2]
      rw [HV.out]
      clear h2
      go_enter Try.func17, Try.ntmps17
      go_upto_region 1 with fail
      rw [HG.out, HW.out]
      go_wp2_with fail
      go_ret
      exact ⟨by simp, HB.out⟩
  · have j1 : (N == N') = false := by simp [h1]
    have HV : Hid (decide (N = N') = false) := by show _ = _; simp [h1]
    rw [HV.out]
    clear h1
    go_enter Try.func17, Try.ntmps17
    go_upto_region 1 with fail
    rw [HG.out, HW.out]
    go_wp2_with fail
    go_ret
    exact ⟨by simp, HB.out⟩

end Go.Proofs.Ytejkeccoialogaa
