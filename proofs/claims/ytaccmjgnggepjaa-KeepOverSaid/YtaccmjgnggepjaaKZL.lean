/-
  The landed package keep: remove.
-/
import Derived.Test.YtaccmjgnggepjaaKZK
namespace Go.Proofs.Ytaccmjgnggepjaa
open Go.RowKit

/-- what a step within a call leaves of it -/
def KeepGo (K : LogK) (gk gl gd : Nat) (F FL : Nat → Prop) (S : K.LS) (p : Value) (z : Int) (l : List PP) (w w' : World) : Prop :=
  ∃ (F' : Nat → Prop) (vP' : Value), KeepAt K w' gk gl gd F' FL S p vP' z (sizeP l : Nat) l ∧ Touch F w w' ∧ ∀ k, F' k → F k ∨ w.heap.size ≤ k

section
variable {K : LogK} {gk gl gd : Nat} {F FL : Nat → Prop} {S : K.LS} {p vP : Value} {z : Int} {l : List PP}

set_option maxRecDepth 100000 in
set_option maxHeartbeats 4000000 in
theorem kremove_is (hK : LogC K) (k : ByteArray) (w : World) (h : KeepAt K w gk gl gd F FL S p vP z (sizeP l : Nat) l) (hg : GoodP l) :
    Calls Try.prog 47 #[.pointer (some ⟨gk, 0, none⟩), .string k] w fun e w' => e = .returned (.tuple #[]) ∧ KeepGo K gk gl gd F FL S p z (delP l k) w w' := by
  have HF := Lib.hid (kfind_is k w h hg.1 hg.len)
  have HB : Hid (∀ w', Below w.heap.size w w' → KeepAt K w' gk gl gd F FL S p vP z (sizeP l : Nat) l) := fun w' hb => h.below hK hb
  have HLT := Lib.hid h.lt
  have HHE := Lib.hid h.here
  cases hh : hasP l k with
  | false =>
    rw [hh] at HF
    have he : delP l k = l := by rw [delP, hh]; rfl
    rw [he]
    clear h hh he
    go_enter Try.func47, Try.ntmps47
    go_wp2_with (go_at_call 29; refine HF.out.mono ?_; rintro e w' ⟨rfl, hb⟩)
    (try simp only [Exit.inBlock, Exit.then])
    refine bodyPost_ret (results_none rfl _ _ _) rfl ?_
    exact ⟨rfl, F, vP, HB.out _ hb, Touch.of hb, fun k hk => .inl hk⟩
  | true =>
    rw [hh] at HF
    obtain ⟨u, hu⟩ := hasP_at hh
    obtain ⟨hd1, hd2⟩ := delP_yes hh hu
    obtain ⟨q, hq⟩ : ∃ q, posP l k = q := ⟨_, rfl⟩
    rw [hq] at hu HF hd1
    have hlt := hasP_lt hh
    rw [hq] at hlt
    obtain ⟨m, hm⟩ : ∃ m, l.length = m + 1 := ⟨l.length - 1, by omega⟩
    rw [hm] at hlt
    have hmx : m + 1 ≤ 4096 := by rw [← hm]; exact hg.len
    have hou := hg.2.2 _ (List.mem_of_getElem? hu)
    obtain ⟨C, hC⟩ : ∃ C, k.size + u.size + 64 = C := ⟨_, rfl⟩
    obtain ⟨sz, hsz⟩ : ∃ sz, sizeP l = sz := ⟨_, rfl⟩
    obtain ⟨T, hT⟩ : ∃ T, sizeP (delP l k) = T := ⟨_, rfl⟩
    have hszm : sz ≤ 262144 := by rw [← hsz]; exact hg.2.1
    rw [hC, hsz, hT] at hd2
    have HCNT : Hid (∀ wX, Calls Try.prog 55 #[.string k, .string u] wX fun e w' => e = .returned (.int .i64 (C : Int)) ∧ wX = w') := fun wX => by
      have h1 := hou.2.1
      have h2 := hou.2.2
      simp only at h1 h2
      have := kcount_is k u wX (by omega) (by omega)
      rw [hC] at this
      exact this
    have e3 : IntKind.i64.wrap ((sz : Int) - (C : Int)) = (T : Int) := by rw [IntKind.wrap_i64]; omega
    have HM := Lib.hid hm
    have HU := Lib.hid hu
    have HD1 := Lib.hid hd1
    have HSZ := Lib.hid hsz
    have HT := Lib.hid hT
    clear h hh hq hou hC hsz hT hm hu hd1 hd2
    go_enter Try.func47, Try.ntmps47
    go_wp2_with fail
    refine HF.out.mono ?_
    rintro e w2 ⟨rfl, hb2⟩
    have h2 := HB.out w2 hb2
    obtain ⟨gr, cap, rfl, hnc, hcm, hne, hF⟩ := h2.rowAt (by rw [HM.out]; omega)
    have c2 := h2.c2
    rw [HM.out] at c2
    have c3 := h2.c3
    rw [HSZ.out] at c3
    have f3 := h2.fz 3
    obtain ⟨d0, d1⟩ := h2.cells HU.out
    have H2 := Lib.hid h2
    have HB2 := Lib.hid hb2
    have i0 : (0 : Int) ≤ (q : Int) := by omega
    have i1 : (q : Int) < (m : Int) + 1 := by omega
    clear h2 hb2 hF hg
    go_wp2_with fail
    go_region_with ((go_at_call 55; refine (HCNT.out _).mono ?_; rintro e w' ⟨rfl, rfl⟩))
    all_goals
      obtain ⟨w3, hw3⟩ : ∃ w3, w3 = (w2.setCell ⟨gk, 3, none⟩ (.int .i64 (T : Int))).drew := ⟨_, rfl⟩
      have h3 : KeepAt K w3 gk gl gd F FL S p (.slice (some ⟨gr, 0, none⟩) l.length cap) z (T : Int) l := by rw [hw3]; exact (H2.out.set3 hK _).same hK rfl
      have ht3 : Touch F w2 w3 := by rw [hw3]; exact ((Touch.refl F w2).set (.inl HHE.out) _).drewN 1
      rw [← hw3]
      have k2 := h3.c2
      rw [HM.out] at k2
      have hr3 := h3.row
      rw [HM.out] at hr3
      have HDEL := Lib.hid (delete_anyP 0 gr cap m q (cellsP l) w3 hr3 (by omega) (by omega) cellsP_one')
      have H3 := Lib.hid h3
      have HT3 := Lib.hid ht3
      have e5 : IntKind.i64.wrap ((q : Int) + 1) = (q : Int) + 1 := IntWalk.i64_in _ (by omega)
      clear h3 ht3 hr3 hw3 c2 c3 f3 d0 d1
      go_wp2_with fail
      refine HDEL.out.mono ?_
      rintro e w4 ⟨rfl, ho4, hg4⟩
      rw [cellsP_take, cellsP_drop, ← cellsP_append, ← HD1.out] at ho4
      have hlen : (delP l k).length = m := by rw [HD1.out, List.length_append, List.length_take, List.length_drop, HM.out]; omega
      have ht4 : Touch (fun j => (Value.slice (some ⟨gr, 0, none⟩) l.length cap).ownBlock = some j) w3 w4 := Touch.grown hg4 fun j e => e
      obtain ⟨h4, ht5⟩ := H3.out.row2 (v' := .slice (some ⟨gr, 0, none⟩) m cap) (l' := delP l k) hK ht4 (by rw [hlen]; exact ho4) (fun j e => .inl e)
      have k3 : w4.cell? ⟨gk, 2, none⟩ = some (.slice (some ⟨gr, 0, none⟩) l.length cap) := (ht4.cell (H3.out.lt _ H3.out.here) (fun e => (H3.out.farR gk e).2 rfl)).trans H3.out.c2
      have f3 : w4.frozen? ⟨gk, 2, none⟩ = false := (ht4.frozen (H3.out.lt _ H3.out.here) (fun e => (H3.out.farR gk e).2 rfl)).trans (H3.out.fz 2)
      have H4 := Lib.hid h4
      have HT5 := Lib.hid ht5
      clear ho4 hg4 hlen ht4 h4 ht5 k2
      go_wp2_with fail
      go_end0
      refine ⟨rfl, fun j => F j ∨ (Value.slice (some ⟨gr, 0, none⟩) m cap).ownBlock = some j, .slice (some ⟨gr, 0, none⟩) m cap, ?_, ((Touch.of HB2.out : Touch F w w2).trans HT3.out fun j hj => .inl hj).trans HT5.out fun j hj => .inl hj, fun j hj => ?_⟩
      · rw [HT.out]; exact H4.out
      · rcases hj with hj | hj
        · exact .inl hj
        · exact .inl (H3.out.rowF j hj)
end

end Go.Proofs.Ytaccmjgnggepjaa
/-
  The landed package keep: set.
-/
namespace Go.Proofs.Ytaccmjgnggepjaa
open Go.RowKit

theorem cellsP_put (l : List PP) (x : PP) (i : Nat) : putInP (cellsP l) x.cells i = cellsP (l.take i ++ x :: l.drop i) := by
  rw [putInP, cellsP_take, cellsP_drop, cellsP_append, List.append_assoc]
  rfl
theorem cellsP_set : ∀ (l : List PP) (j : Nat) (x : PP), j < l.length → cellsP (l.set j x) = ((cellsP l).set (j * 2) (.string x.1)).set (j * 2 + 1) (.string x.2)
  | [], _, _, h => by simp at h
  | p :: l, 0, x, _ => rfl
  | p :: l, j + 1, x, h => by
    have ih := cellsP_set l j x (by simpa using h)
    show PP.cells p ++ cellsP (l.set j x) = ((PP.cells p ++ cellsP l).set ((j + 1) * 2) _).set ((j + 1) * 2 + 1) _
    rw [ih, show (j + 1) * 2 = (j * 2) + 1 + 1 by omega]
    rfl
section
variable {K : LogK} {w w2 : World} {gr n cap : Nat} {gk gl gd : Nat} {F FL : Nat → Prop} {S : K.LS} {p vP : Value} {z zs : Int} {l : List PP}

/-- another pair in the place of one -/
theorem KeepAt.pair (hK : LogC K) (h : KeepAt K w gk gl gd F FL S p (.slice (some ⟨gr, 0, none⟩) n cap) z zs l) (hln : l.length = n) {q : Nat} (hq : q < l.length) (x : PP) :
    KeepAt K ((w.setCell ⟨gr, q * 2, none⟩ (.string x.1)).setCell ⟨gr, q * 2 + 1, none⟩ (.string x.2)) gk gl gd F FL S p (.slice (some ⟨gr, 0, none⟩) n cap) z zs (l.set q x) ∧ Touch F w ((w.setCell ⟨gr, q * 2, none⟩ (.string x.1)).setCell ⟨gr, q * 2 + 1, none⟩ (.string x.2)) := by
  have hFr : F gr := h.rowF gr rfl
  have hne := h.farR gr rfl
  have ht : Touch (fun j => j = gr) w ((w.setCell ⟨gr, q * 2, none⟩ (.string x.1)).setCell ⟨gr, q * 2 + 1, none⟩ (.string x.2)) := (Touch.set (F := fun j => j = gr) (Touch.refl _ w) (.inl rfl) _).set (.inl rfl) _
  refine ⟨⟨?_, ?_, ?_, h.sub, ?_, h.here, h.rowF, h.far, h.farR⟩, ht.mono fun j e => by rw [e]; exact hFr⟩
  · exact (ht.block gk (h.lt _ h.here) fun e => hne.2 e.symm).trans h.blk
  · have hr := h.row
    rw [hln] at hr
    rw [cellsP_set l q x hq, List.length_set, hln]
    exact (((hr.stored (q * 2) (.string x.1)).1).stored (q * 2 + 1) (.string x.2)).1
  · exact hK.kept h.lg ht.size fun k hk => ht.block k (h.lt k (h.sub k hk)) fun e => by rw [e] at hk; exact hne.1 hk
  · intro k hk
    exact Nat.lt_of_lt_of_le (h.lt k hk) ht.size

set_option maxRecDepth 100000 in
set_option maxHeartbeats 1000000 in
/-- one pair more -/
theorem KeepAt.insert (hK : LogC K) (h : KeepAt K w2 gk gl gd F FL S p vP z zs l) (x : PP) {q : Nat} (hq : q ≤ l.length) (hn : l.length ≤ 4096) (wX : World) (hX : Below (w2.alloc (.cells #[.string x.1, .string x.2] 65)).heap.size (w2.alloc (.cells #[.string x.1, .string x.2] 65)) wX) :
    Calls Try.prog 69 #[vP, .int .i64 q, .slice (some ⟨w2.heap.size, 0, none⟩) 1 1] wX fun e w5 => ∃ (A' : Option Addr) (n' c' : Nat), e = .returned (.slice A' n' c') ∧ w5.cell? ⟨gk, 2, none⟩ = some vP ∧ w5.frozen? ⟨gk, 2, none⟩ = false ∧
      Hid (∃ F' : Nat → Prop, KeepAt K (w5.setCell ⟨gk, 2, none⟩ (.slice A' n' c')) gk gl gd F' FL S p (.slice A' n' c') z zs (l.take q ++ x :: l.drop q) ∧ Touch F w2 (w5.setCell ⟨gk, 2, none⟩ (.slice A' n' c')) ∧ ∀ j, F' j → F j ∨ w2.heap.size ≤ j) := by
  have hbX : Below w2.heap.size w2 wX := ((Below.refl _ _).alloc (Nat.le_refl _) _).trans (hX.mono (by simp))
  have hx := h.below hK hbX
  have hgx : wX.heap[w2.heap.size]? = some (.cells (PP.cells x).toArray 65 (0, 0)) := (hX.block _ (by simp)).trans (heap_alloc_new w2 _)
  have hne : vP.ownBlock ≠ some w2.heap.size := fun e => by have := h.lt _ (h.rowF _ e); omega
  refine (insert_anyP 0 w2.heap.size l.length q vP (cellsP l) (PP.cells x) wX hx.row (Nat.zero_le _) hq (by omega) cellsP_one' rfl hgx (fun v hv => cellsP_one' (l := [x]) v (by rw [cellsP_one]; exact hv)) hne).mono ?_
  rintro e w5 ⟨v', rfl, ho, hg, hor⟩
  rw [cellsP_put] at ho
  have ht : Touch (fun j => vP.ownBlock = some j) wX w5 := Touch.grown hg fun j e => e
  have hgk := hx.lt _ hx.here
  have hnk : ¬ vP.ownBlock = some gk := fun e => (hx.farR gk e).2 rfl
  have hlen : (l.take q ++ x :: l.drop q).length = l.length + 1 := by simp; omega
  obtain ⟨h5, ht5⟩ := hx.row2 (v' := v') (l' := l.take q ++ x :: l.drop q) hK ht (by rw [hlen]; exact ho) fun j hj => by
    rcases hor with e | e
    · exact .inl (e ▸ hj)
    · rw [e] at hj
      cases hj
      exact .inr (Nat.le_refl _)
  obtain ⟨A', c', rfl, _, _, _, _⟩ := ownS_slice ho
  refine ⟨A', _, c', rfl, (ht.cell hgk hnk).trans hx.c2, (ht.frozen hgk hnk).trans (hx.fz 2), _, h5, (Touch.of hbX : Touch F w2 wX).trans ht5 fun j hj => .inl hj, fun j hj => ?_⟩
  rcases hj with hj | hj
  · exact .inl hj
  · rcases hor with e | e
    · exact .inl (h.rowF j (e ▸ hj))
    · rw [e] at hj
      cases hj
      exact .inr hbX.size
end

end Go.Proofs.Ytaccmjgnggepjaa
