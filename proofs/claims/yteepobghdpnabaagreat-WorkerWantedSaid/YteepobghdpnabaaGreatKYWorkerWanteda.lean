/-
 Operations of a drawn region, taken one by one. Of no program.
-/
import Derived.Test.YteepobghdpnabaaGreatKDd
namespace Go.Proofs.YteepobghdpnabaaGreat
open Go

theorem yready_4 {P : Program} {md : Region.Mode} {Q : Exit → Act → World → Prop} {S : World → Prop} {o0 o1 o2 o3 o4 : Oper} {rest : List Oper} {fuel : Nat} {listed : Array Bool} {a : Act} {w : World}
  (hr : Region.ready md (o0 :: o1 :: o2 :: o3 :: o4 :: rest).toArray listed = [4])
  (h : ∀ K' : Act → World → Prop, Shut (∀ a w, S w → (S w → wpAnyH P md (o0 :: o1 :: o2 :: o3 :: o4 :: rest).toArray Q S fuel (listed.setIfInBounds 4 true) a w) → K' a w) → if Region.wanted o4 (yielded (o0 :: o1 :: o2 :: o3 :: o4 :: rest).toArray a.tmps) = true then Oper.wp P o4 a w K' Q else K' (a.put o4.dst undef) w) :
  wpAnyH P md (o0 :: o1 :: o2 :: o3 :: o4 :: rest).toArray Q S (fuel + 1) listed a w :=
 wpAnyH_ready hr (by simp) (AllReadyH.cons (i := 4) (o := o4) rfl h AllReadyH.nil)
theorem yready_6 {P : Program} {md : Region.Mode} {Q : Exit → Act → World → Prop} {S : World → Prop} {o0 o1 o2 o3 o4 o5 o6 : Oper} {rest : List Oper} {fuel : Nat} {listed : Array Bool} {a : Act} {w : World}
  (hr : Region.ready md (o0 :: o1 :: o2 :: o3 :: o4 :: o5 :: o6 :: rest).toArray listed = [6])
  (h : ∀ K' : Act → World → Prop, Shut (∀ a w, S w → (S w → wpAnyH P md (o0 :: o1 :: o2 :: o3 :: o4 :: o5 :: o6 :: rest).toArray Q S fuel (listed.setIfInBounds 6 true) a w) → K' a w) → if Region.wanted o6 (yielded (o0 :: o1 :: o2 :: o3 :: o4 :: o5 :: o6 :: rest).toArray a.tmps) = true then Oper.wp P o6 a w K' Q else K' (a.put o6.dst undef) w) :
  wpAnyH P md (o0 :: o1 :: o2 :: o3 :: o4 :: o5 :: o6 :: rest).toArray Q S (fuel + 1) listed a w :=
 wpAnyH_ready hr (by simp) (AllReadyH.cons (i := 6) (o := o6) rfl h AllReadyH.nil)
theorem yready_17 {P : Program} {md : Region.Mode} {Q : Exit → Act → World → Prop} {S : World → Prop} {o0 o1 o2 o3 o4 o5 o6 o7 o8 o9 o10 o11 o12 o13 o14 o15 o16 o17 : Oper} {rest : List Oper} {fuel : Nat} {listed : Array Bool} {a : Act} {w : World}
  (hr : Region.ready md (o0 :: o1 :: o2 :: o3 :: o4 :: o5 :: o6 :: o7 :: o8 :: o9 :: o10 :: o11 :: o12 :: o13 :: o14 :: o15 :: o16 :: o17 :: rest).toArray listed = [17])
  (h : ∀ K' : Act → World → Prop, Shut (∀ a w, S w → (S w → wpAnyH P md (o0 :: o1 :: o2 :: o3 :: o4 :: o5 :: o6 :: o7 :: o8 :: o9 :: o10 :: o11 :: o12 :: o13 :: o14 :: o15 :: o16 :: o17 :: rest).toArray Q S fuel (listed.setIfInBounds 17 true) a w) → K' a w) → if Region.wanted o17 (yielded (o0 :: o1 :: o2 :: o3 :: o4 :: o5 :: o6 :: o7 :: o8 :: o9 :: o10 :: o11 :: o12 :: o13 :: o14 :: o15 :: o16 :: o17 :: rest).toArray a.tmps) = true then Oper.wp P o17 a w K' Q else K' (a.put o17.dst undef) w) :
  wpAnyH P md (o0 :: o1 :: o2 :: o3 :: o4 :: o5 :: o6 :: o7 :: o8 :: o9 :: o10 :: o11 :: o12 :: o13 :: o14 :: o15 :: o16 :: o17 :: rest).toArray Q S (fuel + 1) listed a w :=
 wpAnyH_ready hr (by simp) (AllReadyH.cons (i := 17) (o := o17) rfl h AllReadyH.nil)
theorem yready_19 {P : Program} {md : Region.Mode} {Q : Exit → Act → World → Prop} {S : World → Prop} {o0 o1 o2 o3 o4 o5 o6 o7 o8 o9 o10 o11 o12 o13 o14 o15 o16 o17 o18 o19 : Oper} {rest : List Oper} {fuel : Nat} {listed : Array Bool} {a : Act} {w : World}
  (hr : Region.ready md (o0 :: o1 :: o2 :: o3 :: o4 :: o5 :: o6 :: o7 :: o8 :: o9 :: o10 :: o11 :: o12 :: o13 :: o14 :: o15 :: o16 :: o17 :: o18 :: o19 :: rest).toArray listed = [19])
  (h : ∀ K' : Act → World → Prop, Shut (∀ a w, S w → (S w → wpAnyH P md (o0 :: o1 :: o2 :: o3 :: o4 :: o5 :: o6 :: o7 :: o8 :: o9 :: o10 :: o11 :: o12 :: o13 :: o14 :: o15 :: o16 :: o17 :: o18 :: o19 :: rest).toArray Q S fuel (listed.setIfInBounds 19 true) a w) → K' a w) → if Region.wanted o19 (yielded (o0 :: o1 :: o2 :: o3 :: o4 :: o5 :: o6 :: o7 :: o8 :: o9 :: o10 :: o11 :: o12 :: o13 :: o14 :: o15 :: o16 :: o17 :: o18 :: o19 :: rest).toArray a.tmps) = true then Oper.wp P o19 a w K' Q else K' (a.put o19.dst undef) w) :
  wpAnyH P md (o0 :: o1 :: o2 :: o3 :: o4 :: o5 :: o6 :: o7 :: o8 :: o9 :: o10 :: o11 :: o12 :: o13 :: o14 :: o15 :: o16 :: o17 :: o18 :: o19 :: rest).toArray Q S (fuel + 1) listed a w :=
 wpAnyH_ready hr (by simp) (AllReadyH.cons (i := 19) (o := o19) rfl h AllReadyH.nil)
theorem yready_4_6 {P : Program} {md : Region.Mode} {Q : Exit → Act → World → Prop} {S : World → Prop} {o0 o1 o2 o3 o4 o5 o6 : Oper} {rest : List Oper} {fuel : Nat} {listed : Array Bool} {a : Act} {w : World}
  (hr : Region.ready md (o0 :: o1 :: o2 :: o3 :: o4 :: o5 :: o6 :: rest).toArray listed = [4, 6])
  (h4 : ∀ K' : Act → World → Prop, Shut (∀ a w, S w → (S w → wpAnyH P md (o0 :: o1 :: o2 :: o3 :: o4 :: o5 :: o6 :: rest).toArray Q S fuel (listed.setIfInBounds 4 true) a w) → K' a w) → if Region.wanted o4 (yielded (o0 :: o1 :: o2 :: o3 :: o4 :: o5 :: o6 :: rest).toArray a.tmps) = true then Oper.wp P o4 a w K' Q else K' (a.put o4.dst undef) w)
  (h6 : ∀ K' : Act → World → Prop, Shut (∀ a w, S w → (S w → wpAnyH P md (o0 :: o1 :: o2 :: o3 :: o4 :: o5 :: o6 :: rest).toArray Q S fuel (listed.setIfInBounds 6 true) a w) → K' a w) → if Region.wanted o6 (yielded (o0 :: o1 :: o2 :: o3 :: o4 :: o5 :: o6 :: rest).toArray a.tmps) = true then Oper.wp P o6 a w K' Q else K' (a.put o6.dst undef) w) :
  wpAnyH P md (o0 :: o1 :: o2 :: o3 :: o4 :: o5 :: o6 :: rest).toArray Q S (fuel + 1) listed a w :=
 wpAnyH_ready hr (by simp) (AllReadyH.cons (i := 4) (o := o4) rfl h4 (AllReadyH.cons (i := 6) (o := o6) rfl h6 AllReadyH.nil))
end Go.Proofs.YteepobghdpnabaaGreat
namespace Go.Proofs.YteepobghdpnabaaGreat
open Go.RowKit

section
variable {g B : Nat} {w w' w1 w2 : World} {P : WkD} {a : WkA} {l : List OtD} {o o2 ob : Ad} {ms : List (OtD × Ad)}
theorem StAt.told (h : StAt g B w P a l o ms) {m : OtD} {C : Nat} (hC : B ≤ C) (hob : w.ownsRow C 40 4 ob.v ob.n (txs m.L)) (hl : m.L.length = ob.n) (hf : ∀ k, ob.v.ownBlock = some k → k ≠ g ∧ (∀ y ∈ ms, y.2.v.ownBlock ≠ some k) ∧ ∀ z ∈ a.hs, z.2.v.ownBlock ≠ some k) {b : Obj}
  (hg : (w.alloc b).grownBy w2 o.v.ownBlock) (hr : w2.ownsRow B 48 18 o2.v o2.n (cellsK KM ms ++ KM.cells m ob.v)) (hn : o2.n = o.n + 1) (hat : o.v.ownBlock = o2.v.ownBlock ∨ o2.v.ownBlock = some (w.alloc b).heap.size) :
  StAt g B (w2.setCell ⟨g, 9, none⟩ o2.v) P a (l ++ [m]) o2 (ms ++ [(m, ob)]) ∧ Touch (fun k => k = g ∨ o.v.ownBlock = some k) w (w2.setCell ⟨g, 9, none⟩ o2.v) := by
 have hT : Touch (fun k => o.v.ownBlock = some k) w w2 := ((Touch.refl (fun k => o.v.ownBlock = some k) w).alloc b).on (Touch.grown hg fun k hk => hk)
 have Tg : Touch (fun k => k = g) w2 (w2.setCell ⟨g, 9, none⟩ o2.v) := (Touch.refl (fun j => j = g) w2).set (.inl rfl) o2.v
 have hgo : ∀ k, o.v.ownBlock = some k → k ≠ g := fun k hk => h.far0 k (.inr (.inr (.inl hk)))
 have hbx := (h.box.touch hT fun hf => hgo g hf rfl).set (j := 9) (u := o2.v) (show 9 < 10 by decide)
 have hno : ∀ k, o.v.ownBlock = some k → ¬ a.owns k := fun k hk ho => by
  rcases ho with ho | ho | ho | ⟨y, hy, ho⟩ | ⟨y, hy, ho⟩
  ·exact own_unlike h.out.row h.pg.core.waits.row (show KM.e ≠ KW.e by decide) hk ho
  ·exact own_unlike h.out.row h.pg.core.held.row (show KM.e ≠ KH.e by decide) hk ho
  ·exact own_unlike h.out.row h.pg.core.ready (show KM.e ≠ 3 by decide) hk ho
  ·exact own_unlike h.out.row (h.pg.core.waits.sub y hy).1 (show KM.e ≠ KW.e2 by decide) hk ho
  ·exact own_unlike h.out.row (h.pg.core.held.sub y hy).1 (show KM.e ≠ KH.e2 by decide) hk ho
 have hpg := (h.pg.touch hT hno (fun k hk ho => h.pg.open_far h.out.row (show KM.e ≠ 40 by decide) hk ho)).touch Tg (fun k hk ho => h.far0 k (.inl ho) hk) (fun k hk ho => h.far0 k (.inr (.inl ho)) hk)
 have hsz := hT.size
 have hblk : ∀ k, o2.v.ownBlock = some k → o.v.ownBlock = some k ∨ w.heap.size ≤ k := fun k hk => by
  rcases hat with e | e
  ·exact .inl (e.trans hk)
  ·rw [e] at hk; cases hk; exact .inr (by simp)
 have hgl := h.box.1
 have hfar2 : ∀ k, o2.v.ownBlock = some k → k ≠ g := fun k hk => by
  rcases hblk k hk with e | e
  ·exact hgo k e
  ·omega
 have hobk : ∀ k, ob.v.ownBlock = some k → o.v.ownBlock ≠ some k := fun k hk ho => own_unlike h.out.row hob (show KM.e ≠ 40 by decide) ho hk
 have hobn : w2.ownsRow B 40 4 ob.v ob.n (txs m.L) := ownS_more (own_kept hob fun k hk hlt => hT.block k hlt (hobk k hk)) hC
 have hsub : ∀ x ∈ ms ++ [(m, ob)], (w2.setCell ⟨g, 9, none⟩ o2.v).ownsRow B KM.e2 KM.s2 x.2.v x.2.n (KM.bd x.1) ∧ KM.len x.1 = x.2.n := fun x hx => by
  rcases List.mem_append.1 hx with hx | hx
  ·exact ⟨own_kept (own_kept (h.out.sub x hx).1 fun k hk hlt => hT.block k hlt fun ho => own_unlike h.out.row (h.out.sub x hx).1 KM.ne ho hk) fun k hk hlt => Tg.block k hlt (h.far0 k (.inr (.inr (.inr ⟨x, hx, hk⟩)))), (h.out.sub x hx).2⟩
  ·rw [List.mem_singleton] at hx
   subst hx
   exact ⟨own_kept hobn fun k hk hlt => Tg.block k hlt (hf k hk).1, hl⟩
 refine ⟨⟨by simpa [wkC] using hbx, hpg, ⟨?_, by rw [List.length_append, h.out.len, hn]; rfl, hsub, ?_⟩, by rw [List.map_append, h.eO]; rfl, ?_, ?_, h.gB, by have := h.le; have := Tg.size; omega⟩, (hT.mono fun k hk => .inr hk).on (Tg.mono fun k hk => .inl hk)⟩
 ·rw [cellsK_append, cellsK_one]
  exact own_kept hr fun k hk hlt => Tg.block k hlt (hfar2 k hk)
 ·rw [List.pairwise_append]
  refine ⟨h.out.nod, List.pairwise_singleton _ _, fun x hx y hy k h1 h2 => ?_⟩
  rw [List.mem_singleton] at hy
  subst hy
  exact (hf k h2).2.1 x hx h1
 ·rintro k (hk | hk | hk | ⟨y, hy, hk⟩)
  ·exact h.far0 k (.inl hk)
  ·exact h.far0 k (.inr (.inl hk))
  ·exact hfar2 k hk
  ·rcases List.mem_append.1 hy with hy | hy
   ·exact h.far0 k (.inr (.inr (.inr ⟨y, hy, hk⟩)))
   ·rw [List.mem_singleton] at hy
    subst hy
    exact (hf k hk).1
 ·intro y hy z hz k h1 h2
  rcases List.mem_append.1 hy with hy | hy
  ·exact h.ap y hy z hz k h1 h2
  ·rw [List.mem_singleton] at hy
   subst hy
   exact (hf k h1).2.2 z hz h2
end

set_option maxHeartbeats 2000000 in
theorem sfind_is (g B : Nat) (P : WkD) (a : WkA) (l : List OtD) (o : Ad) (ms : List (OtD × Ad)) (d : Int) (w : World) (h : StAt g B w P a l o ms) (hn : P.H.length ≤ 1000000) :
    Calls Tryz.prog 84 #[.pointer (some ⟨g, 0, none⟩), .int .i64 d] w fun e w' => e = .returned (.int .i64 (idxI P.hs d)) ∧ w = w' := by
  obtain ⟨k0, k1, k2, k3, k4, k5, k6, k7, k8, k9⟩ := h.cells
  have hz : a.hs.length = a.H.n := h.pg.core.held.len
  have hlen : P.H.length = a.H.n := by rw [← len_fst h.pg.core.eH]; exact hz
  have HZ := Lib.hid hz
  have HRW := Lib.hid h.pg.core.held
  have HHS : Hid (a.hs.map dH = P.hs) := hs_map h.pg.core.eH
  have hgl := h.box.1
  obtain ⟨AH, nH, cH, hoH⟩ : ∃ A n c, a.H = ⟨A, n, c⟩ := ⟨_, _, _, rfl⟩
  have HOH := Lib.hid hoH
  rw [hoH] at k7 hlen
  simp only at k7 hlen
  have hn2 : nH ≤ 1000000 := by omega
  clear h hz hoH hlen k0 k1 k2 k3 k4 k5 k6 k8 k9 hn
  go_enter Tryz.func84, Tryz.ntmps84
  go_wp2
  go_loop [5] (fun i => ∃ k : Nat, i = .int .i64 k ∧ k ≤ nH ∧ Hid (∀ (j : Nat) (y : Int), j < k → P.hs[j]? = some y → y ≠ d)) (fun i => nH - (intOf i).toNat)
  case atStart => exact ⟨0, rfl, by omega, by show ∀ (j : Nat), _; exact fun j y hj => by omega⟩
  case round =>
    obtain ⟨k, rfl, hk, HT⟩ := hrel
    have i0 : (0 : Int) ≤ (k : Int) := by omega
    by_cases hlt : k < nH
    · obtain ⟨x, hx⟩ : ∃ x, a.hs[k]? = some x := ⟨a.hs[k]'(by rw [HZ.out, HOH.out]; exact hlt), by simp⟩
      obtain ⟨gr, cr, hA, hcr, hBg, hgrl, hkn, hcell, hfz⟩ := HRW.out.cells hx
      rw [HOH.out] at hA hcr
      simp only at hA hcr
      subst hA
      have c0 : w.cell? ⟨gr, k * 4, none⟩ = some (.int .i64 x.1.d) := hcell 0 _ rfl
      have hm : P.hs[k]? = some x.1.d := by rw [← HHS.out, List.getElem?_map, hx]; rfl
      have HM := Lib.hid hm
      have i1 : (k : Int) < (nH : Int) := by omega
      clear hm hx hcell hfz
      by_cases htm : x.1.d = d
      · have j1 : (x.1.d == d) = true := by simp [htm]
        have HI : Hid (idxI P.hs d = k) := idxI_at (by rw [HM.out, htm]) HT.out
        clear htm
        go_wp2_with fail
        go_ret
        exact ⟨by rw [HI.out]; rfl, rfl⟩
      · have j1 : (x.1.d == d) = false := by simp [htm]
        have HN : Hid (∀ (j : Nat) (y : Int), j < k + 1 → P.hs[j]? = some y → y ≠ d) := by
          show ∀ (j : Nat), _
          intro j y hj hy
          rcases Nat.lt_or_ge j k with h1 | h1
          · exact HT.out j y h1 hy
          · obtain rfl : j = k := by omega
            rw [HM.out] at hy
            cases hy
            exact htm
        clear htm
        go_wp2_with fail
        go_round
        case rel => exact ⟨k + 1, by go_num, by omega, HN⟩
        case measure => simp [intOf]; omega
    · have i1 : ¬ ((k : Int) < (nH : Int)) := by omega
      have HN : Hid (idxI P.hs d = -1) := idxI_no fun h => by
        obtain ⟨j, hj⟩ := List.mem_iff_getElem?.1 h
        have h1 := (List.getElem?_eq_some_iff.1 hj).1
        rw [← HHS.out, List.length_map, HZ.out, HOH.out] at h1
        exact HT.out j d (by simp only at h1; omega) hj rfl
      go_wp2_with fail
      go_ret
      exact ⟨by rw [HN.out]; rfl, rfl⟩

theorem fillZ (m : OtD) (o : Ad) : Instr.fill (fun i => some (i * 18, 18)) ((Array.range (1 * 18)).map ((msgV zeroM zeroA).cells[· % (msgV zeroM zeroA).cells.size]!)) [(0, .agg (KM.cells m o.v).toArray)] = some (KM.cells m o.v).toArray := by kernel_rfl
theorem step_build_mes {ops : Array Oper} {o : Oper} {a : Act} {w : World} {K : Act → World → Prop} {Q : Exit → Act → World → Prop} {E : Prop} (hgd : o.guard = none) (x : Operand) (ho : o.op = .buildSlice 73 1 #[(0, x)]) (m : OtD) (b : Ad) (hx : a.eval x = .agg (KM.cells m b.v).toArray)
  (h : K (a.put o.dst (.slice (some ⟨w.heap.size, 0, none⟩) 1 1)) (w.alloc (.cells (KM.cells m b.v).toArray 48))) : if Region.wanted o (yielded ops a.tmps) = true then Oper.wp Tryz.prog o a w K Q else E := by
 have hw : Region.wanted o (yielded ops a.tmps) = true := by simp [Region.wanted, hgd]
 rw [if_pos hw]
 obtain ⟨ie, hie, hz, hs⟩ := mesZ_have
 refine wp_buildSlice 73 48 1 _ ho (KM.cells m b.v).toArray ie (msgV zeroM zeroA) Tryz.underlying73 hie hz (by rw [hs]; decide) (by rw [hs]; decide) ?_ h
 have e : ((#[(0, x)] : Array (Nat × Operand)).map fun (i, x) => (i, a.eval x)).toList = [(0, .agg (KM.cells m b.v).toArray)] := by
  rw [Array.toList_map]
  show [(0, a.eval x)] = _
  rw [hx]
 rw [e, hs]
 exact fillZ m b

def ToldTo (g B : Nat) (P : WkD) (a : WkA) (l : List OtD) (o : Ad) (ms : List (OtD × Ad)) (m : OtD) (ob : Ad) (w : World) (e : Ending) (w' : World) : Prop := ∃ o', e = .returned (.tuple #[]) ∧ StAt g B w' P a (l ++ [m]) o' (ms ++ [(m, ob)]) ∧ Touch (fun k => k = g ∨ o.v.ownBlock = some k) w w' ∧ ∀ k, o'.v.ownBlock = some k → o.v.ownBlock = some k ∨ w.heap.size ≤ k
set_option maxRecDepth 100000 in
set_option maxHeartbeats 8000000 in
theorem tells_any (g B C : Nat) (P : WkD) (a : WkA) (l : List OtD) (o : Ad) (ms : List (OtD × Ad)) (m : OtD) (ob : Ad) (w : World) (h : StAt g B w P a l o ms) (hC : B ≤ C) (hob : w.ownsRow C 40 4 ob.v ob.n (txs m.L)) (hl : m.L.length = ob.n) (hf : ∀ k, ob.v.ownBlock = some k → k ≠ g ∧ (∀ y ∈ ms, y.2.v.ownBlock ≠ some k) ∧ ∀ z ∈ a.hs, z.2.v.ownBlock ≠ some k) (hn : ms.length ≤ 100000000) :
  Calls Tryz.prog 86 #[.pointer (some ⟨g, 0, none⟩), .agg #[.int .i64 m.k, .int .i64 m.f, .int .i64 m.t, .int .i64 m.d, .int .i64 m.a, .int .i64 m.n, ob.v, .int .i64 0, .int .i64 0, .slice none 0 0, .slice none 0 0, .int .i64 0, .int .i64 0, .slice none 0 0, .slice none 0 0, .int .i64 0, .slice none 0 0, .slice none 0 0]] w (ToldTo g B P a l o ms { m with f := P.i } ob w) := by
 obtain ⟨q, hq⟩ : ∃ q, q = w.heap.size := ⟨_, rfl⟩
 obtain ⟨w1, hw1⟩ : ∃ w1, w1 = w.alloc (.cells #[.int .i64 m.k, .int .i64 m.f, .int .i64 m.t, .int .i64 m.d, .int .i64 m.a, .int .i64 m.n, .slice ob.A ob.n ob.c, .int .i64 0, .int .i64 0, .slice none 0 0, .slice none 0 0, .int .i64 0, .int .i64 0, .slice none 0 0, .slice none 0 0, .int .i64 0, .slice none 0 0, .slice none 0 0] 48) := ⟨_, rfl⟩
 have bx1 : Box w1 q (KM.cells m ob.v) := by rw [hw1, hq]; exact box_new w (KM.cells m ob.v) 48
 have hb1 : Below w.heap.size w w1 := by rw [hw1]; exact (Below.refl _ _).alloc (Nat.le_refl _) _
 have h1 := h.below hb1
 have hgl := h1.box.1
 have hgq : g < q := by rw [hq]; exact h.box.1
 obtain ⟨w2, hw2⟩ : ∃ w2, w2 = w1.setCell ⟨q, 1, none⟩ (.int .i64 P.i) := ⟨_, rfl⟩
 have T12 : Touch (fun k => k = q) w1 w2 := by rw [hw2]; exact (Touch.refl (fun k => k = q) w1).set (.inl rfl) _
 have bx2 : Box w2 q (KM.cells { m with f := P.i } ob.v) := by rw [hw2]; exact bx1.set (j := 1) (u := .int .i64 P.i) (show 1 < 18 by decide)
 have hb2 : Below w.heap.size w w2 := hb1.trans (T12.below (fun k hk => by omega) hb1.size)
 have h2 := h.below hb2
 have hob2 := ownS_below hob hb2
 obtain ⟨k0, k1, k2, k3, k4, k5, k6, k7, k8, k9⟩ := h1.cells
 have f1 := (bx1.2 1 _ rfl).2
 have m1 := (bx1.2 1 _ rfl).1
 have hql := bx1.1
 have HW1 : Hid (w.alloc (.cells #[.int .i64 m.k, .int .i64 m.f, .int .i64 m.t, .int .i64 m.d, .int .i64 m.a, .int .i64 m.n, .slice ob.A ob.n ob.c, .int .i64 0, .int .i64 0, .slice none 0 0, .slice none 0 0, .int .i64 0, .int .i64 0, .slice none 0 0, .slice none 0 0, .int .i64 0, .slice none 0 0, .slice none 0 0] 48) = w1) := hw1.symm
 have HW2 : Hid (w1.setCell ⟨q, 1, none⟩ (.int .i64 P.i) = w2) := hw2.symm
 have HQ : Hid (w.heap.size = q) := hq.symm
 have H2 := Lib.hid h2
 have HBX := Lib.hid bx2
 have HOB := Lib.hid hob2
 have HF := Lib.hid hf
 have HB2 := Lib.hid hb2
 have HFQ : Hid (∀ k, (Value.slice o.A o.n o.c).ownBlock = some k → k ≠ q) := by
  show ∀ k, _
  intro k hk e
  have := (own_lt h.out.row hk).1
  omega
 have hon : o.n ≤ 100000000 := by have := h.out.len; omega
 have hgl2 : g < w2.heap.size := h2.box.1
 have hsz2 := h2.le
 clear hw1 hw2 hq bx1 hb1 h1 T12 bx2 hb2 h2 hob2 k1 k2 k3 k4 k5 k6 k7 k8 k9 hf hob h
 unfold Ad.v
 go_enter Tryz.func86, Tryz.ntmps86
 go_upto_region 1 with fail
 rw [HW1.out, HQ.out]
 go_upto_region 2 with fail
 rw [HW2.out]
 clear k0 f1 m1 hql
 obtain ⟨c0, c1, c2, c3, c4, c5, c6, c7, c8, c9⟩ := H2.out.cells
 clear c0 c1 c2 c3 c4 c5 c6 c7 c8
 have f9 : w2.frozen? ⟨g, 9, none⟩ = false := (H2.out.box.2 9 _ rfl).2
 have c9d : w2.drew.cell? ⟨g, 9, none⟩ = some (.slice o.A o.n o.c) := c9
 have hS0 : w2.drew.rangeAt q 0 (KM.cells { m with f := P.i } ob.v) := fun j v hv => by rw [Nat.zero_add]; exact (HBX.out.2 j v hv).1
 have HRG : Hid (∀ wX, Below w2.heap.size w2 wX → wX.rangeAt q 0 (KM.cells { m with f := P.i } ob.v)) := by
  show ∀ wX, _
  intro wX hX j v hv
  rw [Nat.zero_add]
  exact ((HBX.out.below hX HBX.out.1).2 j v hv).1
 have HROW : Hid (w2.drew.ownsRow B 48 18 (.slice o.A o.n o.c) o.n (cellsK KM ms)) := H2.out.out.row
 have hgo : ∀ k, (Value.slice o.A o.n o.c).ownBlock = some k → k ≠ g ∧ k ≠ q := fun k hk => ⟨H2.out.far0 k (.inr (.inr (.inl hk))), fun e => HFQ.out k hk e⟩
 have HGO := Lib.hid hgo
 clear hgo
 clear c9
 refine wp_region_held_drew (S := fun w' => w'.rangeAt q 0 (KM.cells { m with f := P.i } ob.v)) (by kernel_rfl) hS0 (fun _ => ?_)
 refine ytake_0 (v := ?vv1) (by kernel_rfl) (by kernel_rfl) (by kernel_rfl) (fun _ _ _ h => h) (Or.inl ⟨by rfl, ?hy1⟩) hS0 ?_
 case hy1 =>
  intro wX hSw
  go_simp
  try with_reducible rfl
 try simp only [Act.put, List.setIfInBounds_toArray, List.set_cons_zero, List.set_cons_succ]
 refine ytake_1 (v := ?vv2) (by kernel_rfl) (by kernel_rfl) (by kernel_rfl) (fun _ _ _ h => h) (Or.inl ⟨by rfl, ?hy2⟩) hS0 ?_
 case hy2 =>
  intro wX hSw
  go_simp
  try with_reducible rfl
 try simp only [Act.put, List.setIfInBounds_toArray, List.set_cons_zero, List.set_cons_succ]
 refine ytake_2 (v := ?vv3) (by kernel_rfl) (by kernel_rfl) (by kernel_rfl) (fun _ _ _ h => h) (Or.inl ⟨by rfl, ?hy3⟩) hS0 ?_
 case hy3 =>
  intro wX hSw
  go_simp
  try with_reducible rfl
 try simp only [Act.put, List.setIfInBounds_toArray, List.set_cons_zero, List.set_cons_succ]
 refine ytake_3 (v := ?vv4) (by kernel_rfl) (by kernel_rfl) (by kernel_rfl) (fun _ _ _ h => h) (Or.inl ⟨by rfl, ?hy4⟩) hS0 ?_
 case hy4 =>
  intro wX hSw
  go_simp
  try with_reducible rfl
 try simp only [Act.put, List.setIfInBounds_toArray, List.set_cons_zero, List.set_cons_succ]
 refine ytake_5 (by kernel_rfl) (by kernel_rfl) (by kernel_rfl) (fun _ _ _ h => h) (yieldsIf_load_mid rfl 48 _ rfl q 0 rfl (KM.cells { m with f := P.i } ob.v) _ (fun w' h => h) Tryz.underlying48 rfl size_mes) hS0 ?_
 try simp only [Act.put, List.setIfInBounds_toArray, List.set_cons_zero, List.set_cons_succ]
 obtain ⟨w4, hw4⟩ : ∃ w4, w4 = w2.drew.alloc (.cells (KM.cells { m with f := P.i } ob.v).toArray 48) := ⟨_, rfl⟩
 have hb4 : Below w2.heap.size w2 w4 := by rw [hw4]; exact ((Below.refl _ _).drew).alloc (Nat.le_refl _) _
 have hS4 : w4.rangeAt q 0 (KM.cells { m with f := P.i } ob.v) := HRG.out w4 hb4
 have k94 : w4.cell? ⟨g, 9, none⟩ = some (.slice o.A o.n o.c) := (hb4.cell (p := ⟨g, 9, none⟩) hgl2).trans c9d
 have HW4 := Lib.hid hw4
 have hrow4 : w4.ownsRow B 48 18 (.slice o.A o.n o.c) o.n (cellsK KM ms) := ownS_below H2.out.out.row hb4
 have hnew4 : ∀ i u, (KM.cells { m with f := P.i } ob.v)[i]? = some u → w4.cell? ⟨w2.heap.size, i, none⟩ = some u := by rw [hw4]; exact cells_new w2.drew (KM.cells { m with f := P.i } ob.v) 48
 have HB4 := Lib.hid hb4
 clear hw4 hb4
 refine yready_4_6 (by kernel_rfl) ?_ ?_
 ·intro KQ hK
  rw [if_pos (by rfl)]
  unfold Oper.wp execOp
  go_simp
  refine hK.out _ _ hS0 (fun _ => ?_)
  clear hK KQ
  try simp only [Act.put, List.setIfInBounds_toArray, List.set_cons_zero, List.set_cons_succ]
  refine yready_6 (by kernel_rfl) ?_
  intro KQ hK
  refine step_build_mes (by rfl) _ (by rfl) { m with f := P.i } ob (by rfl) ?_
  rw [← HW4.out]
  refine hK.out _ _ hS4 (fun _ => ?_)
  clear hK KQ
  try simp only [Act.put, List.setIfInBounds_toArray, List.set_cons_zero, List.set_cons_succ]
  refine yready_7 (by kernel_rfl) ?_
  intro KQ hK
  refine step_app_elemZ _ (by rfl) _ _ _ (by rfl) B 48 (msgV zeroM zeroA) 18 256 Tryz.underlying73 info_mesZ rfl (by decide) (by decide) _ o.n (cellsK KM ms) (by rfl) hrow4 w2.heap.size (KM.cells { m with f := P.i } ob.v) (by rfl) (by rfl) hnew4 (KM.one _ _ rfl) (by omega) (by have := HB4.out.size; omega) ?_
  intro g' c4 w7 ho7 hg7 hl7
  have hl7' : (Value.slice o.A o.n o.c).ownBlock = (Ad.v ⟨some ⟨g', 0, none⟩, o.n + 1, c4⟩).ownBlock ∨ (Ad.v ⟨some ⟨g', 0, none⟩, o.n + 1, c4⟩).ownBlock = some w4.heap.size := by
   rcases hl7 with e | e
   ·exact .inl e
   ·exact .inr (by rw [e]; rfl)
  rw [HW4.out] at hg7 hl7'
  have hend := (H2.out.below ((Below.refl _ _).drew)).told (m := { m with f := P.i }) (o2 := ⟨some ⟨g', 0, none⟩, o.n + 1, c4⟩) hC (ownS_below HOB.out ((Below.refl _ _).drew)) hl HF.out hg7 ho7 rfl hl7'
  have HEND := Lib.hid hend
  have HL7 : Hid (∀ k, (Ad.v ⟨some ⟨g', 0, none⟩, o.n + 1, c4⟩).ownBlock = some k → o.v.ownBlock = some k ∨ w.heap.size ≤ k) := by
   show ∀ k, _
   intro k hk
   rcases hl7 with e | e
   ·exact .inl (e.trans hk)
   ·rw [e] at hk
    have h1 := hk
    simp only [Ad.v, Value.ownBlock, Option.some.injEq] at h1
    have := HB4.out.size
    have := HB2.out.size
    exact .inr (by omega)
  have g7l : some g ≠ (Value.slice o.A o.n o.c).ownBlock := fun e => (HGO.out g e.symm).1 rfl
  have q7l : some q ≠ (Value.slice o.A o.n o.c).ownBlock := fun e => (HGO.out q e.symm).2 rfl
  have hgl4 : g < (w2.drew.alloc (.cells (KM.cells { m with f := P.i } ob.v).toArray 48)).heap.size := by simp; omega
  have hql4 : q < (w2.drew.alloc (.cells (KM.cells { m with f := P.i } ob.v).toArray 48)).heap.size := by have := HBX.out.1; simp; omega
  have hS7 : w7.rangeAt q 0 (KM.cells { m with f := P.i } ob.v) := fun j v hv => (World.cell?_of_block (a := ⟨q, 0 + j, none⟩) (hg7.block q hql4 q7l)).trans (by have := hS4 j v hv; rw [HW4.out] at this; exact this)
  have k97 : w7.cell? ⟨g, 9, none⟩ = some (.slice o.A o.n o.c) := (World.cell?_of_block (a := ⟨g, 9, none⟩) (hg7.block g hgl4 g7l)).trans (by rw [HW4.out] at k94; exact k94)
  have f97 : w7.frozen? ⟨g, 9, none⟩ = false := (World.frozen?_of_block (a := ⟨g, 9, none⟩) (hg7.block g hgl4 g7l)).trans ((HB4.out.frozen (p := ⟨g, 9, none⟩) hgl2).symm.symm.trans f9 |> fun h => by rw [HW4.out] at h; exact h)
  refine hK.out _ _ hS7 (fun _ => ?_)
  clear hK KQ
  try simp only [Act.put, List.setIfInBounds_toArray, List.set_cons_zero, List.set_cons_succ]
  have hS8 : (w7.setCell ⟨g, 9, none⟩ (.slice (some ⟨g', 0, none⟩) (o.n + 1) c4)).rangeAt q 0 (KM.cells { m with f := P.i } ob.v) := fun j v hv => (World.cell?_of_block (a := ⟨q, 0 + j, none⟩) (by exact (((Touch.refl (fun k => k = g) w7).set (.inl rfl) (.slice (some ⟨g', 0, none⟩) (o.n + 1) c4) : Touch (fun k => k = g) w7 (w7.setCell ⟨g, 9, none⟩ (.slice (some ⟨g', 0, none⟩) (o.n + 1) c4))).block q (by have := hg7.size; omega) (by omega)))).trans (hS7 j v hv)
  clear ho7 hg7 hl7 hl7' hend g7l q7l hgl4 hql4
  refine ytake_8 (v := ?vv5) (by kernel_rfl) (by kernel_rfl) (by kernel_rfl) (fun _ _ _ h => h) (Or.inl ⟨by rfl, ?hy5⟩) hS7 ?_
  case hy5 =>
   intro wX hSw
   go_simp
   try with_reducible rfl
  try simp only [Act.put, List.setIfInBounds_toArray, List.set_cons_zero, List.set_cons_succ]
  refine ytake_9 (v := ?vv6) (by kernel_rfl) (by kernel_rfl) (by kernel_rfl) (fun _ _ _ h => h) (Or.inl ⟨by rfl, ?hy6⟩) hS7 ?_
  case hy6 =>
   intro wX hSw
   go_simp
   try with_reducible rfl
  try simp only [Act.put, List.setIfInBounds_toArray, List.set_cons_zero, List.set_cons_succ]
  refine yready_10 (by kernel_rfl) ?_
  intro KQ hK
  rw [if_pos (by rfl)]
  unfold Oper.wp execOp
  go_simp
  refine hK.out _ _ hS8 (fun _ => ?_)
  clear hK KQ hS8 k97 f97 hS7
  try simp only [Act.put, List.setIfInBounds_toArray, List.set_cons_zero, List.set_cons_succ]
  refine wpAnyH_done (by kernel_rfl) ?_ _
  go_end0
  exact ⟨_, rfl, HEND.out.1, (Touch.of (show Below w.heap.size w w2.drew from HB2.out.drew)).on HEND.out.2, HL7.out⟩
 ·intro KQ hK
  refine step_build_mes (by rfl) _ (by rfl) { m with f := P.i } ob (by rfl) ?_
  rw [← HW4.out]
  refine hK.out _ _ hS4 (fun _ => ?_)
  clear hK KQ
  try simp only [Act.put, List.setIfInBounds_toArray, List.set_cons_zero, List.set_cons_succ]
  refine yready_4 (by kernel_rfl) ?_
  intro KQ hK
  rw [if_pos (by rfl)]
  unfold Oper.wp execOp
  go_simp
  refine hK.out _ _ hS4 (fun _ => ?_)
  clear hK KQ
  try simp only [Act.put, List.setIfInBounds_toArray, List.set_cons_zero, List.set_cons_succ]
  refine yready_7 (by kernel_rfl) ?_
  intro KQ hK
  refine step_app_elemZ _ (by rfl) _ _ _ (by rfl) B 48 (msgV zeroM zeroA) 18 256 Tryz.underlying73 info_mesZ rfl (by decide) (by decide) _ o.n (cellsK KM ms) (by rfl) hrow4 w2.heap.size (KM.cells { m with f := P.i } ob.v) (by rfl) (by rfl) hnew4 (KM.one _ _ rfl) (by omega) (by have := HB4.out.size; omega) ?_
  intro g' c4 w7 ho7 hg7 hl7
  have hl7' : (Value.slice o.A o.n o.c).ownBlock = (Ad.v ⟨some ⟨g', 0, none⟩, o.n + 1, c4⟩).ownBlock ∨ (Ad.v ⟨some ⟨g', 0, none⟩, o.n + 1, c4⟩).ownBlock = some w4.heap.size := by
   rcases hl7 with e | e
   ·exact .inl e
   ·exact .inr (by rw [e]; rfl)
  rw [HW4.out] at hg7 hl7'
  have hend := (H2.out.below ((Below.refl _ _).drew)).told (m := { m with f := P.i }) (o2 := ⟨some ⟨g', 0, none⟩, o.n + 1, c4⟩) hC (ownS_below HOB.out ((Below.refl _ _).drew)) hl HF.out hg7 ho7 rfl hl7'
  have HEND := Lib.hid hend
  have HL7 : Hid (∀ k, (Ad.v ⟨some ⟨g', 0, none⟩, o.n + 1, c4⟩).ownBlock = some k → o.v.ownBlock = some k ∨ w.heap.size ≤ k) := by
   show ∀ k, _
   intro k hk
   rcases hl7 with e | e
   ·exact .inl (e.trans hk)
   ·rw [e] at hk
    have h1 := hk
    simp only [Ad.v, Value.ownBlock, Option.some.injEq] at h1
    have := HB4.out.size
    have := HB2.out.size
    exact .inr (by omega)
  have g7l : some g ≠ (Value.slice o.A o.n o.c).ownBlock := fun e => (HGO.out g e.symm).1 rfl
  have q7l : some q ≠ (Value.slice o.A o.n o.c).ownBlock := fun e => (HGO.out q e.symm).2 rfl
  have hgl4 : g < (w2.drew.alloc (.cells (KM.cells { m with f := P.i } ob.v).toArray 48)).heap.size := by simp; omega
  have hql4 : q < (w2.drew.alloc (.cells (KM.cells { m with f := P.i } ob.v).toArray 48)).heap.size := by have := HBX.out.1; simp; omega
  have hS7 : w7.rangeAt q 0 (KM.cells { m with f := P.i } ob.v) := fun j v hv => (World.cell?_of_block (a := ⟨q, 0 + j, none⟩) (hg7.block q hql4 q7l)).trans (by have := hS4 j v hv; rw [HW4.out] at this; exact this)
  have k97 : w7.cell? ⟨g, 9, none⟩ = some (.slice o.A o.n o.c) := (World.cell?_of_block (a := ⟨g, 9, none⟩) (hg7.block g hgl4 g7l)).trans (by rw [HW4.out] at k94; exact k94)
  have f97 : w7.frozen? ⟨g, 9, none⟩ = false := (World.frozen?_of_block (a := ⟨g, 9, none⟩) (hg7.block g hgl4 g7l)).trans ((HB4.out.frozen (p := ⟨g, 9, none⟩) hgl2).symm.symm.trans f9 |> fun h => by rw [HW4.out] at h; exact h)
  refine hK.out _ _ hS7 (fun _ => ?_)
  clear hK KQ
  try simp only [Act.put, List.setIfInBounds_toArray, List.set_cons_zero, List.set_cons_succ]
  have hS8 : (w7.setCell ⟨g, 9, none⟩ (.slice (some ⟨g', 0, none⟩) (o.n + 1) c4)).rangeAt q 0 (KM.cells { m with f := P.i } ob.v) := fun j v hv => (World.cell?_of_block (a := ⟨q, 0 + j, none⟩) (by exact (((Touch.refl (fun k => k = g) w7).set (.inl rfl) (.slice (some ⟨g', 0, none⟩) (o.n + 1) c4) : Touch (fun k => k = g) w7 (w7.setCell ⟨g, 9, none⟩ (.slice (some ⟨g', 0, none⟩) (o.n + 1) c4))).block q (by have := hg7.size; omega) (by omega)))).trans (hS7 j v hv)
  clear ho7 hg7 hl7 hl7' hend g7l q7l hgl4 hql4
  refine ytake_8 (v := ?vv7) (by kernel_rfl) (by kernel_rfl) (by kernel_rfl) (fun _ _ _ h => h) (Or.inl ⟨by rfl, ?hy7⟩) hS7 ?_
  case hy7 =>
   intro wX hSw
   go_simp
   try with_reducible rfl
  try simp only [Act.put, List.setIfInBounds_toArray, List.set_cons_zero, List.set_cons_succ]
  refine ytake_9 (v := ?vv8) (by kernel_rfl) (by kernel_rfl) (by kernel_rfl) (fun _ _ _ h => h) (Or.inl ⟨by rfl, ?hy8⟩) hS7 ?_
  case hy8 =>
   intro wX hSw
   go_simp
   try with_reducible rfl
  try simp only [Act.put, List.setIfInBounds_toArray, List.set_cons_zero, List.set_cons_succ]
  refine yready_10 (by kernel_rfl) ?_
  intro KQ hK
  rw [if_pos (by rfl)]
  unfold Oper.wp execOp
  go_simp
  refine hK.out _ _ hS8 (fun _ => ?_)
  clear hK KQ hS8 k97 f97 hS7
  try simp only [Act.put, List.setIfInBounds_toArray, List.set_cons_zero, List.set_cons_succ]
  refine wpAnyH_done (by kernel_rfl) ?_ _
  go_end0
  exact ⟨_, rfl, HEND.out.1, (Touch.of (show Below w.heap.size w w2.drew from HB2.out.drew)).on HEND.out.2, HL7.out⟩

end Go.Proofs.YteepobghdpnabaaGreat
