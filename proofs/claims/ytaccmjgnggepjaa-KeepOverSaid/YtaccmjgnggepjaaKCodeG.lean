/-
  The landed package keep: set, the walk.
-/
import Derived.Test.YtaccmjgnggepjaaKZL
namespace Go.Proofs.Ytaccmjgnggepjaa
open Go.RowKit

theorem insK_wp {w : World} {o : Oper} {a : Act} {K : Act → World → Prop} {Q : Exit → Act → World → Prop} {s1 s2 s3 : Nat} {t1 t2 t3 : TypeId} {v1 v2 v3 : Value}
    (ho : o.op = .call { callee := .value (.func 69), args := #[.tmp s1, .tmp s2, .tmp s3], argTypes := #[t1, t2, t3] }) (h1 : a.tmps[s1]? = some v1) (h2 : a.tmps[s2]? = some v2) (h3 : a.tmps[s3]? = some v3)
    {R : Ending → World → Prop} (hc : Calls Try.prog 69 #[v1, v2, v3] w R) (h : ∀ e w', R e w' → ∃ u, e = .returned u ∧ K (a.put o.dst u) w') : o.wp Try.prog a w K Q := by
  have e1 : a.eval (.tmp s1) = v1 := by simp [Act.eval, h1]
  have e2 : a.eval (.tmp s2) = v2 := by simp [Act.eval, h2]
  have e3 : a.eval (.tmp s3) = v3 := by simp [Act.eval, h3]
  unfold Oper.wp execOp
  simp only [ho]
  go_simp
  refine hc.mono fun e w' hr => ?_
  obtain ⟨u, rfl, hk⟩ := h e w' hr
  exact hk
theorem step_insK {w : World} {ops : Array Oper} {o : Oper} {a : Act} {K : Act → World → Prop} {Q : Exit → Act → World → Prop} {E : Prop} {s1 s2 s3 : Nat} {t1 t2 t3 : TypeId} {v1 v2 v3 : Value} (hgd : o.guard = none)
    (ho : o.op = .call { callee := .value (.func 69), args := #[.tmp s1, .tmp s2, .tmp s3], argTypes := #[t1, t2, t3] }) (h1 : a.tmps[s1]? = some v1) (h2 : a.tmps[s2]? = some v2) (h3 : a.tmps[s3]? = some v3)
    {R : Ending → World → Prop} (hc : Calls Try.prog 69 #[v1, v2, v3] w R) (h : ∀ e w', R e w' → ∃ u, e = .returned u ∧ K (a.put o.dst u) w') : if Region.wanted o (yielded ops a.tmps) = true then Oper.wp Try.prog o a w K Q else E := by
  have hw : Region.wanted o (yielded ops a.tmps) = true := by simp [Region.wanted, hgd]
  rw [if_pos hw]
  exact insK_wp ho h1 h2 h3 hc h

section
variable {K : LogK} {gk gl gd : Nat} {F FL : Nat → Prop} {S : K.LS} {p vP : Value} {z : Int} {l : List PP}

set_option maxRecDepth 100000 in
set_option maxHeartbeats 4000000 in
theorem kset_is (hK : LogC K) (k v : ByteArray) (w : World) (h : KeepAt K w gk gl gd F FL S p vP z (sizeP l : Nat) l) (hg : GoodP l) (hok : checkP l k v = 0) :
    Calls Try.prog 49 #[.pointer (some ⟨gk, 0, none⟩), .string k, .string v] w fun e w' => e = .returned (.tuple #[]) ∧ KeepGo K gk gl gd F FL S p z (setP l k v) w w' := by
  obtain ⟨w1, hw1⟩ : ∃ w1, w1 = w.alloc (.cells #[.string k, .string v] 65) := ⟨_, rfl⟩
  have hb1 : Below w.heap.size w w1 := by rw [hw1]; exact (Below.refl _ _).alloc (Nat.le_refl _) _
  have bx1 : Box w1 w.heap.size [.string k, .string v] := by rw [hw1]; exact box_new w [.string k, .string v] 65
  have HW := Lib.hid hw1
  have HX : Hid (∀ wX, Below w1.heap.size w1 wX → wX.cell? ⟨w.heap.size, 0, none⟩ = some (.string k) ∧ wX.cell? ⟨w.heap.size, 1, none⟩ = some (.string v)) := fun wX h => ⟨(bx1.below h bx1.1).2 0 _ rfl, (bx1.below h bx1.1).2 1 _ rfl⟩
  have h1 := h.below hK hb1
  have HB : Hid (∀ w', Below w1.heap.size w1 w' → KeepAt K w' gk gl gd F FL S p vP z (sizeP l : Nat) l) := fun w' hb => h1.below hK hb
  have HF := Lib.hid (kfind_is k w1 h1 hg.1 hg.len)
  have HLT := Lib.hid h.lt
  have HHE := Lib.hid h.here
  have HB1 := Lib.hid hb1
  obtain ⟨ho, hszs⟩ := checkP_ok hok
  obtain ⟨o1, o2, o3⟩ := ho
  simp only at o1 o2 o3
  obtain ⟨C, hC⟩ : ∃ C, k.size + v.size + 64 = C := ⟨_, rfl⟩
  obtain ⟨sz, hsz⟩ : ∃ sz, sizeP l = sz := ⟨_, rfl⟩
  obtain ⟨T, hT⟩ : ∃ T, sizeP (setP l k v) = T := ⟨_, rfl⟩
  have hszm : sz ≤ 262144 := by rw [← hsz]; exact hg.2.1
  rw [hT] at hszs
  have HCNT : Hid (∀ wX, Calls Try.prog 55 #[.string k, .string v] wX fun e w' => e = .returned (.int .i64 (C : Int)) ∧ wX = w') := fun wX => by
    have := kcount_is k v wX (by omega) (by omega)
    rw [hC] at this
    exact this
  have HSZ := Lib.hid hsz
  have HT := Lib.hid hT
  have HG := Lib.hid hg
  obtain ⟨q, hq⟩ : ∃ q, posP l k = q := ⟨_, rfl⟩
  rw [hq] at HF
  have hzk : w.heap.size < w1.heap.size := bx1.1
  -- the last region
  have HEND : Hid (∀ (w4 : World) (F4 : Nat → Prop) (v4 : Value) (T1 : Nat), KeepAt K w4 gk gl gd F4 FL S p v4 z (T1 : Nat) (setP l k v) → T1 + C = T → Touch F w w4 → (∀ j, F4 j → F j ∨ w.heap.size ≤ j) → KeepGo K gk gl gd F FL S p z (setP l k v) w ((w4.setCell ⟨gk, 3, none⟩ (.int .i64 (T : Int))).drew)) := fun w4 F4 v4 T1 h4 e ht hF => by
    refine ⟨F4, v4, ?_, (ht.set (.inl HHE.out) _).drewN 1, hF⟩
    rw [HT.out]
    exact (h4.set3 hK _).same hK rfl
  clear hw1 bx1 h h1 hb1 hok hg
  cases hh : hasP l k with
  | false =>
    rw [hh] at HF
    obtain ⟨s1, s2⟩ := setP_no (v := v) hh
    rw [hq] at s1
    have hT2 : sz + C = T := by rw [hT, hsz] at s2; omega
    have HS1 := Lib.hid s1
    have hql : q ≤ l.length := by rw [← hq]; exact posP_le l k
    have hln := HG.out.len
    have HQL := Lib.hid hql
    have HLN := Lib.hid hln
    have HT2 := Lib.hid hT2
    have e3 : IntKind.i64.wrap ((sz : Int) + (C : Int)) = (T : Int) := by rw [IntKind.wrap_i64]; omega
    clear hh hq hC hsz hT s1 s2 hT2 hql hln
    go_enter Try.func49, Try.ntmps49
    go_upto_region 1 with fail
    rw [← HW.out]
    go_wp2_with fail
    refine HF.out.mono ?_
    rintro e w2 ⟨rfl, hb2⟩
    have h2 := HB.out w2 hb2
    obtain ⟨d0, d1⟩ := HX.out w2 hb2
    obtain ⟨A, c, rfl, _, _, _⟩ := h2.slice
    have c2 := h2.c2
    have H2 := Lib.hid h2
    have HB2 := Lib.hid hb2
    have hz2 := hb2.size
    have c2a : (w2.alloc (.cells #[.string k, .string v] 65)).cell? ⟨gk, 2, none⟩ = some (.slice A l.length c) := (((Below.refl w2.heap.size w2).alloc (Nat.le_refl _) _).cell (p := ⟨gk, 2, none⟩) (h2.lt _ h2.here)).trans c2
    have HINS := Lib.hid (h2.insert hK (k, v) (q := q) HQL.out HLN.out)
    obtain ⟨n, hnn⟩ : ∃ n, l.length = n := ⟨_, rfl⟩
    rw [hnn] at c2 c2a HINS
    have HN := Lib.hid hnn
    clear h2 hb2 hnn
    go_upto_region 5 with fail
    go_cut [] from 43 to 53 (fun wx => ∃ (F' : Nat → Prop) (v' : Value), Hid (KeepAt K wx gk gl gd F' FL S p v' z (sizeP l : Nat) (l.take q ++ (k, v) :: l.drop q)) ∧ Hid (Touch F w2 wx) ∧ Hid (∀ j, F' j → F j ∨ w2.heap.size ≤ j))
    case first =>
      go_region_law (first
        | (refine step_insK (by rfl) (by rfl) (by rfl) (by rfl) (by rfl) (HINS.out _ (by first | exact Below.refl _ _ | exact (Below.refl _ _).drew)) ?_; rintro e w5 ⟨A5, n5, c5, rfl, k5, f5, H5⟩; refine ⟨_, rfl, ?_⟩))
      all_goals
        go_wp2_with fail
        go_meet
        obtain ⟨F', a1, a2, a3⟩ := H5.out
        exact ⟨F', _, a1, a2, a3⟩
    case rest =>
      obtain ⟨F', v', H4, HT4, HF4⟩ := hcut
      have k3 := H4.out.c3
      rw [HSZ.out] at k3
      have f3 := H4.out.fz 3
      clear c2 c2a d0 d1
      go_upto_region 6 with fail
      go_region_with ((go_at_call 55; refine (HCNT.out _).mono ?_; rintro e w' ⟨rfl, rfl⟩))
      all_goals
        go_wp2_with fail
        go_end0
        refine ⟨rfl, HEND.out _ F' v' sz ?_ HT2.out (((Touch.of (HB1.out.trans (HB2.out.mono (Nat.le_of_lt hzk))) : Touch F w w2)).trans HT4.out fun j hj => .inl hj) fun j hj => ?_⟩
        · have h4 := H4.out
          rw [← HS1.out, HSZ.out] at h4
          exact h4
        · rcases HF4.out j hj with h | h
          · exact .inl h
          · exact .inr (by omega)
  | true =>
    rw [hh] at HF
    obtain ⟨u, hu⟩ := hasP_at hh
    obtain ⟨s1, s2⟩ := setP_yes (v := v) hh hu
    have s3 := setP_set (v := v) hh hu
    have hlt := hasP_lt hh
    rw [hq] at hu s3 hlt
    have hou := HG.out.2.2 _ (List.mem_of_getElem? hu)
    obtain ⟨C0, hC0⟩ : ∃ C0, k.size + u.size + 64 = C0 := ⟨_, rfl⟩
    rw [hT, hsz, hC, hC0] at s2
    obtain ⟨T1, hT1⟩ : ∃ T1, sz = T1 + C0 := ⟨sz - C0, by
      have e := split_at hu
      have : sizeP l = sizeP (l.take q) + (k.size + u.size + 64 + sizeP (l.drop (q + 1))) := by
        conv => lhs; rw [e, sizeP_append, sizeP, cntP]
      omega⟩
    have hT2 : T1 + C = T := by omega
    have HS1 := Lib.hid s3
    have HU := Lib.hid hu
    have HLQ := Lib.hid hlt
    have HT2 := Lib.hid hT2
    have HCN0 : Hid (∀ wX, Calls Try.prog 55 #[.string k, .string u] wX fun e w' => e = .returned (.int .i64 (C0 : Int)) ∧ wX = w') := fun wX => by
      have h2 := hou.2.2
      simp only at h2
      have := kcount_is k u wX (by omega) (by omega)
      rw [hC0] at this
      exact this
    have e2 : IntKind.i64.wrap ((sz : Int) - (C0 : Int)) = (T1 : Int) := by rw [IntKind.wrap_i64]; omega
    have e3 : IntKind.i64.wrap ((T1 : Int) + (C : Int)) = (T : Int) := by rw [IntKind.wrap_i64]; omega
    obtain ⟨n, hnn⟩ : ∃ n, l.length = n := ⟨_, rfl⟩
    have HN := Lib.hid hnn
    have hqn : q < n := by omega
    clear hh hq hC hsz hT s1 s2 s3 hT2 hlt hu hou hC0 hT1 hnn
    go_enter Try.func49, Try.ntmps49
    go_upto_region 1 with fail
    rw [← HW.out]
    go_wp2_with fail
    refine HF.out.mono ?_
    rintro e w2 ⟨rfl, hb2⟩
    have h2 := HB.out w2 hb2
    obtain ⟨p0, p1⟩ := HX.out w2 hb2
    obtain ⟨gr, cap, rfl, _, _, _, hFr⟩ := h2.rowAt (by rw [HN.out]; omega)
    have c2 := h2.c2
    rw [HN.out] at c2
    have c3 := h2.c3
    rw [HSZ.out] at c3
    have f3 := h2.fz 3
    obtain ⟨d0, d1⟩ := h2.cells HU.out
    have H2 := Lib.hid h2
    have HB2 := Lib.hid hb2
    have hz2 := hb2.size
    have i0 : (0 : Int) ≤ (q : Int) := by omega
    have i1 : (q : Int) < (n : Int) := by omega
    clear h2 hb2
    go_upto_region 3 with fail
    go_cut [] from 19 to 35 (fun wx => (w2.setCell ⟨gk, 3, none⟩ (.int .i64 (T1 : Int))).drew = wx)
    case first =>
      go_region_with ((go_at_call 55; refine (HCN0.out _).mono ?_; rintro e w' ⟨rfl, rfl⟩))
      all_goals
        go_wp2_with fail
        go_meet
        rfl
    case rest =>
    clear c2 c3 f3 d0 d1
    obtain ⟨w3, hw3⟩ : ∃ w3, w3 = (w2.setCell ⟨gk, 3, none⟩ (.int .i64 (T1 : Int))).drew := ⟨_, rfl⟩
    rw [← hw3] at hcut
    subst hcut
    have h3 : KeepAt K w3 gk gl gd F FL S p (.slice (some ⟨gr, 0, none⟩) l.length cap) z (T1 : Int) l := by rw [hw3]; exact (H2.out.set3 hK _).same hK rfl
    have ht3 : Touch (fun j => j = gk) w2 w3 := by rw [hw3]; exact (Touch.set (F := fun j => j = gk) (Touch.refl _ w2) (.inl rfl) _).drewN 1
    have hgp : ¬ w.heap.size = gk := fun e => by have := HLT.out gk HHE.out; omega
    have q0 : w3.cell? ⟨w.heap.size, 0, none⟩ = some (.string k) := (ht3.cell (by omega) hgp).trans p0
    have q1 : w3.cell? ⟨w.heap.size, 1, none⟩ = some (.string v) := (ht3.cell (by omega) hgp).trans p1
    have k2 := h3.c2
    rw [HN.out] at k2
    have g0 : w3.frozen? ⟨gr, q * 2, none⟩ = false := h3.row.frozenAt _
    have g1 : w3.frozen? ⟨gr, q * 2 + 1, none⟩ = false := h3.row.frozenAt _
    obtain ⟨d0, d1⟩ := h3.cells HU.out
    obtain ⟨h4, ht4⟩ := h3.pair hK rfl HLQ.out (k, v)
    have HT3 : Hid (Touch F w w3) := ((Touch.of (HB1.out.trans (HB2.out.mono (Nat.le_of_lt hzk))) : Touch F w w2)).trans (ht3.mono (F' := F) fun j e => by rw [e]; exact HHE.out) fun j hj => .inl hj
    rw [← HS1.out] at h4
    have H4 := Lib.hid h4
    have HT4 := Lib.hid ht4
    clear h3 ht3 h4 ht4 hw3 p0 p1
    go_upto_region 4 with fail
    go_cut [] from 36 to 42 (fun wx => Hid (KeepAt K wx gk gl gd F FL S p (.slice (some ⟨gr, 0, none⟩) l.length cap) z (T1 : Int) (setP l k v)) ∧ Hid (Touch F w3 wx))
    case first =>
      go_region
      all_goals
        go_wp2_with fail
        go_meet
        exact ⟨H4.out.same hK rfl, HT4.out.drewN 1⟩
    case rest =>
    obtain ⟨H5, HT5⟩ := hcut
    have k3 := H5.out.c3
    have f3 := H5.out.fz 3
    clear k2 q0 q1 g0 g1 d0 d1
    go_upto_region 6 with fail
    go_region_with ((go_at_call 55; refine (HCNT.out _).mono ?_; rintro e w' ⟨rfl, rfl⟩))
    all_goals
      go_wp2_with fail
      go_end0
      exact ⟨rfl, HEND.out _ F _ T1 H5.out HT2.out (HT3.out.trans HT5.out fun j hj => .inl hj) fun j hj => .inl hj⟩
end

end Go.Proofs.Ytaccmjgnggepjaa
