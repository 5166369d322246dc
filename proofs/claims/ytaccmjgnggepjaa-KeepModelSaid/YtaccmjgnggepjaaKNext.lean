/-
  What the statements on stores say themselves that an act does to pairs.
-/
import Derived.Test.YtaccmjgnggepjaaKZS
import Derived.Deep.RegionLaw
namespace Go.Proofs.Ytaccmjgnggepjaa
open Go.RowKit

theorem ownS_slice0 {w : World} {B : Nat} {e : TypeId} {s : Nat} {v : Value} {n : Nat} {xs : List Value} (h : w.ownsRow B e s v n xs) : ∃ A c, v = .slice A n c ∧ n ≤ c ∧ c ≤ maxLen ∧ Rd w A xs ∧ (∀ a, A = some a → B ≤ a.block) ∧ (A = none → c = 0) := by
  rcases h.2 with ⟨rfl, h0⟩ | ⟨g, cap, cur, rfl, hb, hg, hnc, hcm, hcs, ht⟩
  · subst h0
    have hx : xs = [] := List.eq_nil_of_length_eq_zero (by simpa using h.1)
    subst hx
    exact ⟨none, 0, rfl, by omega, by simp [maxLen], Rd.nil _ _, (fun a ha => by cases ha), fun _ => rfl⟩
  · obtain ⟨A, c, e, h1, h2, h3, h4, _⟩ := ownS_slice h
    cases e
    exact ⟨_, _, rfl, h1, h2, h3, h4, fun h => by cases h⟩

/-- append of a list of elements of s cells -/
theorem wpList_app_listS {P : Program} (w : World) {ops : Array Oper} {rest : List Oper} {o : Oper} {a : Act} {Q : Exit → Act → World → Prop} (hgd : o.guard = none) (s x : Operand) (t : TypeId)
    (ho : o.op = .call { callee := .builtin .append, args := #[s, x], argTypes := #[t, t] })
    (B : Nat) (e : TypeId) (z : Value) (sz bytes : Nat) (ht : P.underlying t = some (.slice e)) (hinfo : (P.info? e).map (fun i => (i.zero, i.size, i.bytes)) = some (some z, sz, bytes)) (hzs : z.cells.size = sz) (hsz : 0 < sz) (hby : bytes ≤ 256)
    (v : Value) (n : Nat) (xs : List Value) (hs : a.eval s = v) (hown : w.ownsRow B e sz v n xs)
    (A : Option Addr) (m c : Nat) (news : List Value) (hx : a.eval x = .slice A m c) (hm : news.length = m * sz) (hr : 0 < m → ∃ b off, A = some ⟨b, off, none⟩ ∧ ∀ i u, news[i]? = some u → w.cell? ⟨b, off + i, none⟩ = some u) (h1 : ∀ u ∈ news, u.oneCell' = true)
    (hn : n + m ≤ 68719476736) (hB : B ≤ w.heap.size)
    (h : ∀ v' w', w'.ownsRow B e sz v' (n + m) (xs ++ news) → Below B w w' → wpList P ops Q rest (a.put o.dst v') w') : wpList P ops Q (o :: rest) a w := by
  obtain ⟨i, hi, hz, hsize, hbytes⟩ := info_parts hinfo
  rcases Nat.eq_zero_or_pos m with h0 | h0
  · subst h0
    have hn0 : news = [] := List.eq_nil_of_length_eq_zero (by simpa using hm)
    subst hn0
    have hrun : (Builtin.append_ #[t, t] o.type #[v, .slice A 0 c]).run P w = .ok v w := by
      have hf : (Builtin.firstCells i.size 0 (.slice A 0 c)).run P w = .ok #[] w := by
        cases A with
        | none => simp [Builtin.firstCells]
        | some a =>
          have := run_loadCells_list (P := P) w a [] (by simp)
          simpa [Builtin.firstCells] using this
      rcases hown.2 with ⟨rfl, rfl⟩ | ⟨g, cap, cur, rfl, _, _, hnc, _⟩
      · simp [Builtin.append_, run_underlying ht, sizeOf, typeInfo, hi, Builtin.lenOf, hf]
      · simp [Builtin.append_, run_underlying ht, sizeOf, typeInfo, hi, Builtin.lenOf, hf, hnc, storeCells]
    refine wpList_plain hgd fun K hK => ?_
    unfold Oper.wp execOp
    simp only [ho, resolve, invoke, builtin, Sem.run_bind, Sem.run_pure, Result.andThen_ok, List.map_toArray, List.map_cons, List.map_nil, hs, hx, hrun]
    exact hK _ _ (h v w (by simpa using hown) (Below.refl _ _))
  · obtain ⟨b, off, rfl, hc⟩ := hr h0
    refine wpList_append_own (P := P) w hgd s x t ho B e i z sz bytes ht hi hz hsize hbytes hzs hsz v n xs hs hown ⟨b, off, none⟩ m c news hx hm ?_ h1 (by unfold maxLen; omega) ?_ hB ?_
    · intro j y hj
      rw [Addr.add_lit]
      exact hc j y hj
    · have := Nat.mul_le_mul hn hby
      omega
    · intro v' w' hown' hg _
      exact h v' w' hown' (belowS_own (Below.refl _ _) hown hg hB)

theorem copyK_wp {w : World} {o : Oper} {a : Act} {K : Act → World → Prop} {Q : Exit → Act → World → Prop} {s : Nat} {t : TypeId} {v : Value} (ho : o.op = .call { callee := .value (.func 28), args := #[.tmp s], argTypes := #[t] }) (hs : a.tmps[s]? = some v) {R : Ending → World → Prop} (hc : Calls Try.prog 28 #[v] w R)
    (h : ∀ e w', R e w' → ∃ u, e = .returned u ∧ K (a.put o.dst u) w') : o.wp Try.prog a w K Q := by
  have he : a.eval (.tmp s) = v := by simp [Act.eval, hs]
  unfold Oper.wp execOp
  simp only [ho]
  go_simp
  refine hc.mono fun e w' hr => ?_
  obtain ⟨u, rfl, hk⟩ := h e w' hr
  exact hk
theorem step_copyK {w : World} {ops : Array Oper} {o : Oper} {a : Act} {K : Act → World → Prop} {Q : Exit → Act → World → Prop} {E : Prop} {s : Nat} {t : TypeId} {v : Value} (hgd : o.guard = none)
    (ho : o.op = .call { callee := .value (.func 28), args := #[.tmp s], argTypes := #[t] }) (hs : a.tmps[s]? = some v) {R : Ending → World → Prop} (hc : Calls Try.prog 28 #[v] w R)
    (h : ∀ e w', R e w' → ∃ u, e = .returned u ∧ K (a.put o.dst u) w') : if Region.wanted o (yielded ops a.tmps) = true then Oper.wp Try.prog o a w K Q else E := by
  have hw : Region.wanted o (yielded ops a.tmps) = true := by simp [Region.wanted, hgd]
  rw [if_pos hw]
  exact copyK_wp ho hs hc h

theorem toList_nil {s : ByteArray} (h : s.size = 0) : s.toList = [] := by
  rw [Lib.toList_data]
  exact List.eq_nil_of_length_eq_zero (by rw [← size_data]; exact h)
theorem toList_nil' {s : ByteArray} (h : s.toList = []) : s.size = 0 := by
  rw [Lib.toList_data] at h
  rw [size_data, h]
  rfl
/-! ### in plain words -/
/-- pairs handed back, and the error -/
def NextPTo (w : World) (Al : Option Addr) (l : List PP) (R : List PP × Int) (e : Ending) (w' : World) : Prop :=
  ∃ (A' : Option Addr) (c' : Nat), e = .returned (.tuple #[.slice A' R.1.length c', .int .i64 R.2]) ∧ R.1.length ≤ c' ∧ c' ≤ maxLen ∧ Rd w' A' (cellsP R.1) ∧ (A' = none → c' = 0) ∧ Below w.heap.size w w' ∧ ((A' = Al ∧ R.1 = l) ∨ ∀ a, A' = some a → w.heap.size ≤ a.block)
theorem rd_take {w : World} {A : Option Addr} {l : List PP} (h : Rd w A (cellsP l)) (i : Nat) : Rd w A (cellsP (l.take i)) := fun hx => by
  have h0 : cellsP l ≠ [] := fun e => by
    have h1 : (cellsP l).length = 0 := by rw [e]; rfl
    rw [cellsP_length] at h1
    have h2 : l = [] := List.eq_nil_of_length_eq_zero (by omega)
    apply hx
    rw [h2]
    simp [cellsP]
  obtain ⟨b, off, e, hb, hc⟩ := h h0
  refine ⟨b, off, e, hb, fun j v hj => hc j v ?_⟩
  rw [← cellsP_take, List.getElem?_take] at hj
  split at hj
  · exact hj
  · cases hj

set_option maxRecDepth 100000 in
set_option maxHeartbeats 4000000 in
theorem nextK_is (a : ActW) (nK m : Nat) (Al : Option Addr) (cl nl : Nat) (l : List PP) (w : World) (_ : a.nK = nK) (hwv : wrap64 ((IntKind.u64.wrap a.Do).tmod ((8 : Nat) : Int)) = (m : Int)) (hm8 : m < 8)
    (hsS : a.S.size ≤ 140737488351232) (_ : a.V.size ≤ 140737488351232) (hp : PrIn w Al nl cl l) (hnil : Al = none → cl = 0) (hn : nl ≤ 100000) :
    Calls Try.prog 10 #[.slice Al nl cl, .agg #[.int .i64 a.Do, .string a.S, .string a.V, .slice a.AK nK a.cK]] w (NextPTo w Al l (nextK l m a)) := by
  obtain ⟨R, hR⟩ : ∃ R, nextK l m a = R := ⟨_, rfl⟩
  rw [hR]
  rw [nextK] at hR
  have HRR := Lib.hid hR
  obtain ⟨w1, hw1⟩ : ∃ w1, w1 = w.alloc (.cells #[.int .i64 a.Do, .string a.S, .string a.V, .slice a.AK nK a.cK] 36) := ⟨_, rfl⟩
  have hb1 : Below w.heap.size w w1 := by rw [hw1]; exact (Below.refl _ _).alloc (Nat.le_refl _) _
  have bx1 : Box w1 w.heap.size [.int .i64 a.Do, .string a.S, .string a.V, .slice a.AK nK a.cK] := by rw [hw1]; exact box_new w [.int .i64 a.Do, .string a.S, .string a.V, .slice a.AK nK a.cK] 36
  have HBX : Hid (∀ wX, Below w1.heap.size w1 wX → wX.cell? ⟨w.heap.size, 0, none⟩ = some (.int .i64 a.Do) ∧ wX.cell? ⟨w.heap.size, 1, none⟩ = some (.string a.S) ∧ wX.cell? ⟨w.heap.size, 2, none⟩ = some (.string a.V)) := fun wX h => ⟨(bx1.below h bx1.1).2 0 _ rfl, (bx1.below h bx1.1).2 1 _ rfl, (bx1.below h bx1.1).2 2 _ rfl⟩
  have hz1 := hb1.size
  have HB1 := Lib.hid hb1
  have HW := Lib.hid hw1
  have HWV := Lib.hid hwv
  have hp1 := hp.below hb1
  have HP1 : Hid (∀ wX, Below w1.heap.size w1 wX → PrIn wX Al nl cl l) := fun wX hX => hp1.below hX
  have HWI : Hid (∀ wX, Calls Try.prog 15 #[.int .i64 a.Do, .int .i64 8] wX fun e w' => e = .returned (.int .i64 m) ∧ wX = w') := fun wX => within_is a.Do 8 m wX hwv (by decide) (by decide)
  have hcl := hp.hc
  have HML := Lib.hid hp.hm
  have HZ := Lib.hid hp.hz
  have HNIL := Lib.hid hnil
  have HFD := Lib.hid (find11_any Al cl nl l a.S w1 hp1 (by omega))
  have hpl : posP l a.S ≤ nl := by have := posP_le l a.S; rw [hp.hz] at this; exact this
  have hhl : hasP l a.S = true → posP l a.S < nl := fun hh => by have := hasP_lt hh; rw [hp.hz] at this; exact this
  have hset0 : hasP l a.S = false → setP l a.S a.V = l.take (posP l a.S) ++ (a.S, a.V) :: l.drop (posP l a.S) := fun hh => (setP_no hh).1
  have hset1 : hasP l a.S = true → setP l a.S a.V = l.take (posP l a.S) ++ (a.S, a.V) :: l.drop (posP l a.S + 1) := fun hh => by
    obtain ⟨u, hu⟩ := hasP_at hh
    exact (setP_yes hh hu).1
  have HS0 := Lib.hid hset0
  have HS1 := Lib.hid hset1
  obtain ⟨nS, hnS⟩ : ∃ nS, a.S.size = nS := ⟨_, rfl⟩
  obtain ⟨nV, hnV⟩ : ∃ nV, a.V.size = nV := ⟨_, rfl⟩
  have e9 : (a.S.size : Int) = (nS : Int) := by rw [hnS]
  have e8 : (a.V.size : Int) = (nV : Int) := by rw [hnV]
  have HNS := Lib.hid hnS
  have HNV := Lib.hid hnV
  obtain ⟨i, hi⟩ : ∃ i, posP l a.S = i := ⟨_, rfl⟩
  obtain ⟨th, hth⟩ : ∃ th, hasP l a.S = th := ⟨_, rfl⟩
  rw [hi] at hpl hhl HS0 HS1 HFD HRR
  rw [hth] at hhl HS0 HS1 HFD
  have HTH := Lib.hid hth
  rw [hnS] at hsS
  have HSAME : Hid (∀ (x : Int) (wX : World), Below w1.heap.size w1 wX → R = (l, x) → NextPTo w Al l R (.returned (.tuple #[.slice Al nl cl, .int .i64 x])) wX) := fun x wX hX hx => by
    rw [hx]
    exact ⟨Al, cl, by rw [HZ.out], by rw [HZ.out]; exact hcl, HML.out, (HP1.out wX hX).rd, HNIL.out, HB1.out.trans (hX.mono hz1), .inl ⟨rfl, rfl⟩⟩
  have HNEW : Hid (∀ (L : List PP) (n' : Nat) (v : Value) (wX : World), Below w1.heap.size w1 wX → L.length = n' → R = (L, 0) → wX.ownsRow w1.heap.size 65 2 v n' (cellsP L) → NextPTo w Al l R (.returned (.tuple #[v, .int .i64 0])) wX) := fun L n' v wX hX hl hx ho => by
    obtain ⟨A', c', rfl, h1, h2, h3, h4, h5⟩ := ownS_slice0 ho
    rw [hx]
    refine ⟨A', c', by rw [hl], by rw [hl]; exact h1, h2, h3, h5, HB1.out.trans (hX.mono hz1), .inr fun b hb => Nat.le_trans hz1 (h4 b hb)⟩
  have HCP : Hid (∀ wX, Below w1.heap.size w1 wX → Calls Try.prog 28 #[.slice Al i cl] wX (MadeS 2 wX.heap.size 65 wX i (cellsP (l.take i)))) := fun wX hX => copyPairs_any Al cl i (l.take i) wX (by rw [List.length_take, HZ.out]; omega) (rd_take (HP1.out wX hX).rd i) (by omega)
  have HTLEN : Hid ((l.take i).length = i) := by show _ = _; rw [List.length_take, HZ.out]; omega
  clear hw1 bx1 hR hp hp1 hnil hset0 hset1 hnS hnV hi hth hb1 hwv
  have e1 : IntKind.i64.wrap ((i : Int) + 1) = (i : Int) + 1 := IntWalk.i64_in _ (by omega)
  have g0 : (0 : Int) ≤ (i : Int) := by omega
  have g1 : (i : Int) ≤ (nl : Int) := by omega
  have g2 : (i : Int) ≤ (cl : Int) := by omega
  have g3 : i ≤ cl := by omega
  by_cases hm4 : m = 4
  · subst hm4
    have k4 : ((4 : Nat) : Int) = 4 := rfl
    by_cases hs0 : nS = 0
    · have j2 : a.S.toList = [] := toList_nil (by rw [HNS.out]; exact hs0)
      have j1 : (a.S.toList == []) = true := by rw [j2]; rfl
      have HE : Hid (R = (l, 1)) := by
        show R = _
        rw [← HRR.out, if_pos rfl, if_neg, dropE, if_pos (by rw [HNS.out]; omega)]
        rw [dropE, if_pos (by rw [HNS.out]; omega)]
        decide
      clear HRR
      go_enter Try.func10, Try.ntmps10
      go_upto_region 1 with fail
      rw [← HW.out]
      have b1 := (HBX.out w1 (Below.refl _ _)).2.1
      go_wp2_with fail
      refine HFD.out.mono ?_
      rintro e w2 ⟨rfl, d2, hw2⟩
      have hb2 : Below w1.heap.size w1 w2 := by rw [hw2]; exact below_n (Below.refl _ _) d2
      obtain ⟨x0, x1, x2⟩ := HBX.out w2 hb2
      clear hw2 b1
      go_wp2_with fail
      refine (HWI.out _).mono ?_
      rintro e w' ⟨rfl, rfl⟩
      go_wp2_with fail
      go_ret2
      exact HSAME.out 1 _ hb2 (HE.out)
    · have j2 : ¬ a.S.toList = [] := fun h => hs0 (by rw [← HNS.out]; exact toList_nil' h)
      have j1 : (a.S.toList == []) = false := by simp only [beq_eq_false_iff_ne, ne_eq]; exact j2
      by_cases hs32 : 32 < nS
      · have j3 : (32 : Int) < (nS : Int) := by omega
        have HE : Hid (R = (l, 1)) := by
          show R = _
          rw [← HRR.out, if_pos rfl, if_neg, dropE, if_pos (by rw [HNS.out]; omega)]
          rw [dropE, if_pos (by rw [HNS.out]; omega)]
          decide
        clear HRR
        go_enter Try.func10, Try.ntmps10
        go_upto_region 1 with fail
        rw [← HW.out]
        have b1 := (HBX.out w1 (Below.refl _ _)).2.1
        go_wp2_with fail
        refine HFD.out.mono ?_
        rintro e w2 ⟨rfl, d2, hw2⟩
        have hb2 : Below w1.heap.size w1 w2 := by rw [hw2]; exact below_n (Below.refl _ _) d2
        obtain ⟨x0, x1, x2⟩ := HBX.out w2 hb2
        clear hw2 b1
        go_wp2_with fail
        refine (HWI.out _).mono ?_
        rintro e w' ⟨rfl, rfl⟩
        go_wp2_with fail
        go_ret2
        exact HSAME.out 1 _ hb2 (HE.out)
      · have j3 : ¬ ((32 : Int) < (nS : Int)) := by omega
        have hok : ¬ ¬ (1 ≤ a.S.size ∧ a.S.size ≤ 32) := fun h => h (by rw [HNS.out]; omega)
        cases th with
        | false =>
          have HE : Hid (R = (l, 3)) := by
            show R = _
            have hd : dropE l a.S = 3 := by rw [dropE, if_neg hok, if_pos HTH.out]
            rw [← HRR.out, if_pos rfl, hd, if_neg (by decide)]
          clear HRR hok
          go_enter Try.func10, Try.ntmps10
          go_upto_region 1 with fail
          rw [← HW.out]
          have b1 := (HBX.out w1 (Below.refl _ _)).2.1
          go_wp2_with fail
          refine HFD.out.mono ?_
          rintro e w2 ⟨rfl, d2, hw2⟩
          have hb2 : Below w1.heap.size w1 w2 := by rw [hw2]; exact below_n (Below.refl _ _) d2
          obtain ⟨x0, x1, x2⟩ := HBX.out w2 hb2
          clear hw2 b1
          go_wp2_with fail
          refine (HWI.out _).mono ?_
          rintro e w' ⟨rfl, rfl⟩
          go_wp2_with fail
          go_ret2
          exact HSAME.out 3 _ hb2 (HE.out)
        | true =>
          have hlt := hhl rfl
          have HE : Hid (R = (l.take i ++ l.drop (i + 1), 0)) := by
            show R = _
            have hd : dropE l a.S = 0 := by rw [dropE, if_neg hok, if_neg (by rw [HTH.out]; decide)]
            rw [← HRR.out, if_pos rfl, hd, if_pos rfl]
          clear HRR hok
          obtain ⟨b, off, hA, _, _⟩ := (HP1.out w1 (Below.refl _ _)).open_ (by omega)
          have HA := Lib.hid hA
          clear hA
          have q1 : (0 : Int) ≤ (i : Int) + 1 := by omega
          have q2 : (i : Int) + 1 ≤ (nl : Int) := by omega
          have q3 : ((i : Int) + 1).toNat = i + 1 := by omega
          have q4 : i + 1 ≤ nl := by omega
          have hlen : (l.take i ++ l.drop (i + 1)).length = i + (nl - (i + 1)) := by rw [List.length_append, HTLEN.out, List.length_drop, HZ.out]
          have HLEN := Lib.hid hlen
          have hcat : cellsP (l.take i) ++ cellsP (l.drop (i + 1)) = cellsP (l.take i ++ l.drop (i + 1)) := (cellsP_append _ _).symm
          have HCAT := Lib.hid hcat
          have hdl : (cellsP (l.drop (i + 1))).length = (nl - (i + 1)) * 2 := by rw [cellsP_length, List.length_drop, HZ.out]
          have HDL := Lib.hid hdl
          clear hlen hcat hdl
          go_enter Try.func10, Try.ntmps10
          go_upto_region 1 with fail
          rw [← HW.out]
          have b1 := (HBX.out w1 (Below.refl _ _)).2.1
          go_wp2_with fail
          refine HFD.out.mono ?_
          rintro e w2 ⟨rfl, d2, hw2⟩
          have hb2 : Below w1.heap.size w1 w2 := by rw [hw2]; exact below_n (Below.refl _ _) d2
          obtain ⟨x0, x1, x2⟩ := HBX.out w2 hb2
          clear hw2 b1
          go_wp2_with fail
          refine (HWI.out _).mono ?_
          rintro e w' ⟨rfl, rfl⟩
          go_wp2_with fail
          refine (HCP.out _ hb2).mono ?_
          rintro e w3 ⟨v3, rfl, ho3, hb3⟩
          have hb13 := hb2.trans (hb3.mono hb2.size)
          have ho3b := ownS_more ho3 hb2.size
          have HO3 := Lib.hid ho3b
          have HRD : Hid (∀ x u, (cellsP (l.drop (i + 1)))[x]? = some u → w3.cell? ⟨b, off + (i + 1) * 2 + x, none⟩ = some u) := fun x u hx => by
            obtain ⟨b', off', hA', _, hc⟩ := (HP1.out w3 hb13).open_ (by omega)
            rw [HA.out] at hA'
            cases hA'
            rw [Nat.add_assoc]
            refine hc _ _ ?_
            rw [← cellsP_drop, List.getElem?_drop] at hx
            exact hx
          have hz13 := hb13.size
          obtain ⟨A3, c3, rfl, _, _, _, _, _⟩ := ownS_slice ho3
          clear ho3 ho3b hb3
          by_cases hc1 : cl = i + 1
          · subst hc1
            obtain rfl : nl = i + 1 := by omega
            have hA := HA.out
            subst hA
            go_wp2_with (first | (at_builtin; refine wpList_app_listS _ rfl _ _ 34 rfl w1.heap.size 65 zpair 2 32 Try.underlying34 info_pair rfl (by decide) (by decide) _ i _ rfl HO3.out _ 0 0 [] rfl rfl (fun h => absurd h (by decide)) (fun u hu => by simp at hu) (by omega) hz13 ?_))
            intro v4 w4 ho4 hb4
            have HN4 := Lib.hid (HNEW.out _ _ v4 w4 (hb13.trans hb4) HLEN.out HE.out (ownS_conv ho4 (by rw [← HCAT.out, List.eq_nil_of_length_eq_zero (by rw [HDL.out, Nat.sub_self, Nat.zero_mul] : (cellsP (l.drop (i + 1))).length = 0), List.append_nil]) (by omega)))
            clear ho4 hb4
            go_wp2_with fail
            go_ret2
            exact HN4.out
          · have hA := HA.out
            subst hA
            go_wp2_with (first | (at_builtin; refine wpList_app_listS _ rfl _ _ 34 rfl w1.heap.size 65 zpair 2 32 Try.underlying34 info_pair rfl (by decide) (by decide) _ i _ rfl HO3.out _ (nl - (i + 1)) _ (cellsP (l.drop (i + 1))) rfl HDL.out (fun _ => ⟨b, off + (i + 1) * 2, rfl, HRD.out⟩) cellsP_one' (by omega) hz13 ?_))
            intro v4 w4 ho4 hb4
            have HN4 := Lib.hid (HNEW.out _ _ v4 w4 (hb13.trans hb4) HLEN.out HE.out (ownS_conv ho4 (by first | exact HCAT.out | (rw [← List.append_assoc]; exact HCAT.out) | simpa using HCAT.out) (by first | rfl | omega)))
            clear ho4 hb4
            go_wp2_with fail
            go_ret2
            exact HN4.out
  · have hRR2 := HRR.out
    rw [if_neg hm4] at hRR2
    have HR2 := Lib.hid hRR2
    have k4 : ((m : Int) == 4) = false := by simp; omega
    have k4' : ¬ ((m : Int) = 4) := by omega
    clear HRR hRR2
    by_cases hm567 : m = 5 ∨ m = 6 ∨ m = 7
    · have HE : Hid (R = (l, 0)) := by show R = _; rw [← HR2.out, if_pos hm567]
      clear HR2
      rcases hm567 with rfl | rfl | rfl
      all_goals
        go_enter Try.func10, Try.ntmps10
        go_upto_region 1 with fail
        rw [← HW.out]
        have b1 := (HBX.out w1 (Below.refl _ _)).2.1
        go_wp2_with fail
        refine HFD.out.mono ?_
        rintro e w2 ⟨rfl, d2, hw2⟩
        have hb2 : Below w1.heap.size w1 w2 := by rw [hw2]; exact below_n (Below.refl _ _) d2
        obtain ⟨x0, x1, x2⟩ := HBX.out w2 hb2
        clear hw2 b1
        go_wp2_with fail
        refine (HWI.out _).mono ?_
        rintro e w' ⟨rfl, rfl⟩
        go_wp2_with fail
        go_ret2
        exact HSAME.out 0 _ hb2 (HE.out)
    · have hRR2 := HR2.out
      rw [if_neg hm567] at hRR2
      have HR3 := Lib.hid hRR2
      have k5 : ((m : Int) == 5) = false := by simp; omega
      have k6 : ((m : Int) == 6) = false := by simp; omega
      have k7 : ((m : Int) == 7) = false := by simp; omega
      have k5' : ¬ ((m : Int) = 5) := by omega
      have k6' : ¬ ((m : Int) = 6) := by omega
      have k7' : ¬ ((m : Int) = 7) := by omega
      have e2 : IntKind.i64.wrap (4032 - (nS : Int)) = 4032 - (nS : Int) := IntWalk.i64_in _ (by omega)
      have hbad : ¬ (1 ≤ nS ∧ nS ≤ 32 ∧ nS + nV ≤ 4032) → R = (l, 1) := fun hb => by
        rw [← HR3.out, if_pos]
        rw [HNS.out, HNV.out]
        exact hb
      have HBAD := Lib.hid hbad
      clear HR2 hRR2 hbad hm567
      by_cases hs0 : nS = 0
      · have j2 : a.S.toList = [] := toList_nil (by rw [HNS.out]; exact hs0)
        have j1 : (a.S.toList == []) = true := by rw [j2]; rfl
        have HE := Lib.hid (HBAD.out (by omega))
        clear HR3 HBAD
        go_enter Try.func10, Try.ntmps10
        go_upto_region 1 with fail
        rw [← HW.out]
        have b1 := (HBX.out w1 (Below.refl _ _)).2.1
        go_wp2_with fail
        refine HFD.out.mono ?_
        rintro e w2 ⟨rfl, d2, hw2⟩
        have hb2 : Below w1.heap.size w1 w2 := by rw [hw2]; exact below_n (Below.refl _ _) d2
        obtain ⟨x0, x1, x2⟩ := HBX.out w2 hb2
        clear hw2 b1
        go_wp2_with fail
        refine (HWI.out _).mono ?_
        rintro e w' ⟨rfl, rfl⟩
        go_wp2_with fail
        go_ret2
        exact HSAME.out 1 _ hb2 (HE.out)
      · have j2 : ¬ a.S.toList = [] := fun h => hs0 (by rw [← HNS.out]; exact toList_nil' h)
        have j1 : (a.S.toList == []) = false := by simp only [beq_eq_false_iff_ne, ne_eq]; exact j2
        by_cases hs32 : 32 < nS
        · have j3 : (32 : Int) < (nS : Int) := by omega
          have HE := Lib.hid (HBAD.out (by omega))
          clear HR3 HBAD
          go_enter Try.func10, Try.ntmps10
          go_upto_region 1 with fail
          rw [← HW.out]
          have b1 := (HBX.out w1 (Below.refl _ _)).2.1
          go_wp2_with fail
          refine HFD.out.mono ?_
          rintro e w2 ⟨rfl, d2, hw2⟩
          have hb2 : Below w1.heap.size w1 w2 := by rw [hw2]; exact below_n (Below.refl _ _) d2
          obtain ⟨x0, x1, x2⟩ := HBX.out w2 hb2
          clear hw2 b1
          go_wp2_with fail
          refine (HWI.out _).mono ?_
          rintro e w' ⟨rfl, rfl⟩
          go_wp2_with fail
          go_ret2
          exact HSAME.out 1 _ hb2 (HE.out)
        · have j3 : ¬ ((32 : Int) < (nS : Int)) := by omega
          by_cases hsum : nS + nV ≤ 4032
          · have j4 : ¬ (4032 - (nS : Int) < (nV : Int)) := by omega
            have hE : R = (setP l a.S a.V, 0) := by
              rw [← HR3.out, if_neg]
              rw [HNS.out, HNV.out]
              exact fun hn => hn ⟨by omega, by omega, hsum⟩
            have HE := Lib.hid hE
            clear HR3 HBAD hE
            go_enter Try.func10, Try.ntmps10
            go_upto_region 1 with fail
            rw [← HW.out]
            have b1 := (HBX.out w1 (Below.refl _ _)).2.1
            go_wp2_with fail
            refine HFD.out.mono ?_
            rintro e w2 ⟨rfl, d2, hw2⟩
            have hb2 : Below w1.heap.size w1 w2 := by rw [hw2]; exact below_n (Below.refl _ _) d2
            obtain ⟨x0, x1, x2⟩ := HBX.out w2 hb2
            clear hw2 b1
            go_wp2_with fail
            refine (HWI.out _).mono ?_
            rintro e w' ⟨rfl, rfl⟩
            go_upto_region 16 with fail
            have HB2 := Lib.hid hb2
            have hz2 := hb2.size
            have hbA : Below w2.heap.size w2 ((w2.alloc (.cells #[.string a.S, .string a.V] 65)).drew) := ((Below.refl _ _).alloc (Nat.le_refl _) _).drew
            have HBA := Lib.hid hbA
            have HBA1 : Hid (Below w1.heap.size w1 ((w2.alloc (.cells #[.string a.S, .string a.V] 65)).drew)) := hb2.trans (hbA.mono hz2)
            have HUU : Hid (∀ v ∈ PP.cells (a.S, a.V), v.oneCell' = true) := fun v hv => cellsP_one' (l := [(a.S, a.V)]) v (by rw [cellsP_one]; exact hv)
            clear hbA
            go_cut [9] from 70 to 80 (fun mv wx => Hid (wx.ownsRow w1.heap.size 65 2 mv (i + 1) (cellsP (l.take i) ++ PP.cells (a.S, a.V))) ∧ Below w1.heap.size w1 wx)
            case first =>
              rcases Al with _ | ad
              · have hc0 : cl = 0 := HNIL.out rfl
                obtain rfl : i = 0 := by omega
                subst hc0
                go_region_law (first
                  | (refine step_copyK (by rfl) (by rfl) (by rfl) (HCP.out _ (by first | exact HB2.out | exact HB2.out.drew)) ?_; rintro e w5 ⟨v5, rfl, ho5, hb5⟩; have hb15 : Below w1.heap.size w1 w5 := (by first | exact HB2.out.trans (hb5.mono HB2.out.size) | exact HB2.out.drew.trans (hb5.mono HB2.out.drew.size)); have ho5b := ownS_more ho5 (by first | exact HB2.out.size | exact HB2.out.drew.size); obtain ⟨A5, c5, rfl, _, _, _, _, _⟩ := ownS_slice ho5b; refine ⟨_, rfl, ?_⟩; obtain ⟨_, y1, y2⟩ := HBX.out w5 hb15; have hz15 := hb15.size)
                  | (refine step_copyK (by rfl) (by rfl) (by rfl) (HCP.out _ HBA1.out) ?_; rintro e w5 ⟨v5, rfl, ho5, hb5⟩; have hb15 : Below w1.heap.size w1 w5 := HBA1.out.trans (hb5.mono HBA1.out.size); have ho5b := ownS_more ho5 HBA1.out.size; have rx : ∀ x u, (PP.cells (a.S, a.V))[x]? = some u → w5.cell? ⟨w2.heap.size, x, none⟩ = some u := (fun x u hx => (hb5.cell (p := ⟨w2.heap.size, x, none⟩) (by simp)).trans (cells_new_drew w2 (PP.cells (a.S, a.V)) 65 x u hx)); obtain ⟨A5, c5, rfl, _, _, _, _, _⟩ := ownS_slice ho5b; refine ⟨_, rfl, ?_⟩; obtain ⟨_, y1, y2⟩ := HBX.out w5 hb15; have hz15 := hb15.size)
                  | (refine step_app_elem _ (by rfl) _ _ _ (by rfl) w1.heap.size 65 zpair 2 32 Try.underlying34 info_pair rfl (by decide) (by decide) _ 0 (cellsP (l.take 0)) (by rfl) (ownS_below (ownS_more ho5b (Nat.le_refl _)) (((Below.refl w5.heap.size w5).alloc (Nat.le_refl _) (.cells #[.string a.S, .string a.V] 65)))) w5.heap.size (PP.cells (a.S, a.V)) (by rfl) rfl (cells_new w5 (PP.cells (a.S, a.V)) 65) HUU.out (by omega) (by simp; omega) ?_; intro v7 w7 ho7 hb7 _; have hb17 : Below w1.heap.size w1 w7 := (hb15.alloc hz15 _).trans hb7)
                  | (refine step_app_elem _ (by rfl) _ _ _ (by rfl) w1.heap.size 65 zpair 2 32 Try.underlying34 info_pair rfl (by decide) (by decide) _ 0 (cellsP (l.take 0)) (by rfl) ho5b w2.heap.size (PP.cells (a.S, a.V)) (by rfl) rfl rx HUU.out (by omega) hz15 ?_; intro v7 w7 ho7 hb7 _; have hb17 : Below w1.heap.size w1 w7 := hb15.trans hb7))
                all_goals
                  have HO7 := Lib.hid ho7
                  clear ho7 ho5 ho5b y1 y2
                  go_wp2_with fail
                  go_meet
                  exact ⟨HO7.out, hb17⟩
              · skip
                go_region_law (first
                  | (refine step_copyK (by rfl) (by rfl) (by rfl) (HCP.out _ (by first | exact HB2.out | exact HB2.out.drew)) ?_; rintro e w5 ⟨v5, rfl, ho5, hb5⟩; have hb15 : Below w1.heap.size w1 w5 := (by first | exact HB2.out.trans (hb5.mono HB2.out.size) | exact HB2.out.drew.trans (hb5.mono HB2.out.drew.size)); have ho5b := ownS_more ho5 (by first | exact HB2.out.size | exact HB2.out.drew.size); obtain ⟨A5, c5, rfl, _, _, _, _, _⟩ := ownS_slice ho5b; refine ⟨_, rfl, ?_⟩; obtain ⟨_, y1, y2⟩ := HBX.out w5 hb15; have hz15 := hb15.size)
                  | (refine step_copyK (by rfl) (by rfl) (by rfl) (HCP.out _ HBA1.out) ?_; rintro e w5 ⟨v5, rfl, ho5, hb5⟩; have hb15 : Below w1.heap.size w1 w5 := HBA1.out.trans (hb5.mono HBA1.out.size); have ho5b := ownS_more ho5 HBA1.out.size; have rx : ∀ x u, (PP.cells (a.S, a.V))[x]? = some u → w5.cell? ⟨w2.heap.size, x, none⟩ = some u := (fun x u hx => (hb5.cell (p := ⟨w2.heap.size, x, none⟩) (by simp)).trans (cells_new_drew w2 (PP.cells (a.S, a.V)) 65 x u hx)); obtain ⟨A5, c5, rfl, _, _, _, _, _⟩ := ownS_slice ho5b; refine ⟨_, rfl, ?_⟩; obtain ⟨_, y1, y2⟩ := HBX.out w5 hb15; have hz15 := hb15.size)
                  | (refine step_app_elem _ (by rfl) _ _ _ (by rfl) w1.heap.size 65 zpair 2 32 Try.underlying34 info_pair rfl (by decide) (by decide) _ i (cellsP (l.take i)) (by rfl) (ownS_below (ownS_more ho5b (Nat.le_refl _)) (((Below.refl w5.heap.size w5).alloc (Nat.le_refl _) (.cells #[.string a.S, .string a.V] 65)))) w5.heap.size (PP.cells (a.S, a.V)) (by rfl) rfl (cells_new w5 (PP.cells (a.S, a.V)) 65) HUU.out (by omega) (by simp; omega) ?_; intro v7 w7 ho7 hb7 _; have hb17 : Below w1.heap.size w1 w7 := (hb15.alloc hz15 _).trans hb7)
                  | (refine step_app_elem _ (by rfl) _ _ _ (by rfl) w1.heap.size 65 zpair 2 32 Try.underlying34 info_pair rfl (by decide) (by decide) _ i (cellsP (l.take i)) (by rfl) ho5b w2.heap.size (PP.cells (a.S, a.V)) (by rfl) rfl rx HUU.out (by omega) hz15 ?_; intro v7 w7 ho7 hb7 _; have hb17 : Below w1.heap.size w1 w7 := hb15.trans hb7))
                all_goals
                  have HO7 := Lib.hid ho7
                  clear ho7 ho5 ho5b y1 y2
                  go_wp2_with fail
                  go_meet
                  exact ⟨HO7.out, hb17⟩
            case rest =>
            obtain ⟨HM9, hb9⟩ := hcut
            obtain ⟨A9, c9, rfl, _, _, _, _, _⟩ := ownS_slice HM9.out
            have hz9 := hb9.size
            have HB9 := Lib.hid hb9
            have hlx : (l.take i ++ [(a.S, a.V)]).length = i + 1 := by rw [List.length_append, HTLEN.out]; rfl
            have HLX := Lib.hid hlx
            have HCX : Hid (cellsP (l.take i) ++ PP.cells (a.S, a.V) = cellsP (l.take i ++ [(a.S, a.V)])) := by show _ = _; rw [cellsP_append, cellsP_one]
            clear hb9 x0 x1 x2 hlx
            cases th with
            | true =>
              have hset : setP l a.S a.V = l.take i ++ (a.S, a.V) :: l.drop (i + 1) := HS1.out rfl
              have hE := HE.out
              rw [hset] at hE
              have HE := Lib.hid hE
              have hlen : (l.take i ++ (a.S, a.V) :: l.drop (i + 1)).length = (i + 1) + (nl - (i + 1)) := by rw [List.length_append, HTLEN.out, List.length_cons, List.length_drop, HZ.out]; omega
              have HLEN := Lib.hid hlen
              have hcat : cellsP (l.take i) ++ PP.cells (a.S, a.V) ++ cellsP (l.drop (i + 1)) = cellsP (l.take i ++ (a.S, a.V) :: l.drop (i + 1)) := by
                rw [cellsP_append, List.append_assoc]
                rfl
              have HCAT := Lib.hid hcat
              have hdl : (cellsP (l.drop (i + 1))).length = (nl - (i + 1)) * 2 := by rw [cellsP_length, List.length_drop, HZ.out]
              have HDL := Lib.hid hdl
              clear hlen hcat hdl hset hE
              have hlt := hhl rfl
              obtain ⟨b, off, hA, _, _⟩ := (HP1.out w1 (Below.refl _ _)).open_ (by omega)
              have HA := Lib.hid hA
              clear hA
              have HRD : Hid (∀ x u, (cellsP (l.drop (i + 1)))[x]? = some u → wc.cell? ⟨b, off + (i + 1) * 2 + x, none⟩ = some u) := fun x u hx => by
                obtain ⟨b', off', hA', _, hc⟩ := (HP1.out _ HB9.out).open_ (by omega)
                rw [HA.out] at hA'
                cases hA'
                rw [Nat.add_assoc]
                refine hc _ _ ?_
                rw [← cellsP_drop, List.getElem?_drop] at hx
                exact hx
              have q1 : (0 : Int) ≤ (i : Int) + 1 := by omega
              have q2 : (i : Int) + 1 ≤ (nl : Int) := by omega
              have q3 : ((i : Int) + 1).toNat = i + 1 := by omega
              have q4 : i + 1 ≤ nl := by omega
              by_cases hc1 : cl = i + 1
              · subst hc1
                obtain rfl : nl = i + 1 := by omega
                have hA := HA.out
                subst hA
                go_wp2_with (first | (at_builtin; refine wpList_app_listS _ rfl _ _ 34 rfl w1.heap.size 65 zpair 2 32 Try.underlying34 info_pair rfl (by decide) (by decide) _ (i + 1) _ rfl HM9.out _ 0 _ [] rfl rfl (fun h => absurd h (by decide)) (fun u hu => by simp at hu) (by omega) hz9 ?_))
                intro v4 w4 ho4 hb4
                have HN4 := Lib.hid (HNEW.out _ _ v4 w4 (HB9.out.trans hb4) HLEN.out HE.out (ownS_conv ho4 (by rw [← HCAT.out, List.eq_nil_of_length_eq_zero (by rw [HDL.out, Nat.sub_self, Nat.zero_mul] : (cellsP (l.drop (i + 1))).length = 0), List.append_nil]) (by omega)))
                clear ho4 hb4
                go_wp2_with fail
                go_ret2
                exact HN4.out
              · have hA := HA.out
                subst hA
                go_wp2_with (first | (at_builtin; refine wpList_app_listS _ rfl _ _ 34 rfl w1.heap.size 65 zpair 2 32 Try.underlying34 info_pair rfl (by decide) (by decide) _ (i + 1) _ rfl HM9.out _ (nl - (i + 1)) _ (cellsP (l.drop (i + 1))) rfl HDL.out (fun _ => ⟨b, off + (i + 1) * 2, rfl, HRD.out⟩) cellsP_one' (by omega) hz9 ?_))
                intro v4 w4 ho4 hb4
                have HN4 := Lib.hid (HNEW.out _ _ v4 w4 (HB9.out.trans hb4) HLEN.out HE.out (ownS_conv ho4 (by first | exact HCAT.out | (rw [← List.append_assoc]; exact HCAT.out) | simpa using HCAT.out) (by first | rfl | omega)))
                clear ho4 hb4
                go_wp2_with fail
                go_ret2
                exact HN4.out
            | false =>
              have hset : setP l a.S a.V = l.take i ++ (a.S, a.V) :: l.drop i := HS0.out rfl
              have hE := HE.out
              rw [hset] at hE
              have HE := Lib.hid hE
              have hlen : (l.take i ++ (a.S, a.V) :: l.drop i).length = (i + 1) + (nl - i) := by rw [List.length_append, HTLEN.out, List.length_cons, List.length_drop, HZ.out]; omega
              have HLEN := Lib.hid hlen
              have hcat : cellsP (l.take i) ++ PP.cells (a.S, a.V) ++ cellsP (l.drop i) = cellsP (l.take i ++ (a.S, a.V) :: l.drop i) := by
                rw [cellsP_append, List.append_assoc]
                rfl
              have HCAT := Lib.hid hcat
              have hdl : (cellsP (l.drop i)).length = (nl - i) * 2 := by rw [cellsP_length, List.length_drop, HZ.out]
              have HDL := Lib.hid hdl
              clear hlen hcat hdl hset hE
              rcases Al with _ | ad
              · have hc0 : cl = 0 := HNIL.out rfl
                obtain rfl : i = 0 := by omega
                subst hc0
                obtain rfl : nl = 0 := by omega
                go_wp2_with (first | (at_builtin; refine wpList_app_listS _ rfl _ _ 34 rfl w1.heap.size 65 zpair 2 32 Try.underlying34 info_pair rfl (by decide) (by decide) _ (0 + 1) _ rfl HM9.out _ 0 _ [] rfl rfl (fun h => absurd h (by decide)) (fun u hu => by simp at hu) (by omega) hz9 ?_))
                intro v4 w4 ho4 hb4
                have HN4 := Lib.hid (HNEW.out _ _ v4 w4 (HB9.out.trans hb4) HLEN.out HE.out (ownS_conv ho4 (by rw [← HCAT.out, List.eq_nil_of_length_eq_zero (by rw [HDL.out, Nat.sub_self, Nat.zero_mul] : (cellsP (l.drop 0)).length = 0), List.append_nil]; rfl) (by omega)))
                clear ho4 hb4
                go_wp2_with fail
                go_ret2
                exact HN4.out
              · by_cases hc1 : cl = i
                · subst hc1
                  obtain rfl : nl = cl := by omega
                  go_wp2_with (first | (at_builtin; refine wpList_app_listS _ rfl _ _ 34 rfl w1.heap.size 65 zpair 2 32 Try.underlying34 info_pair rfl (by decide) (by decide) _ (nl + 1) _ rfl HM9.out _ 0 _ [] rfl rfl (fun h => absurd h (by decide)) (fun u hu => by simp at hu) (by omega) hz9 ?_))
                  intro v4 w4 ho4 hb4
                  have HN4 := Lib.hid (HNEW.out _ _ v4 w4 (HB9.out.trans hb4) HLEN.out HE.out (ownS_conv ho4 (by rw [← HCAT.out, List.eq_nil_of_length_eq_zero (by rw [HDL.out, Nat.sub_self, Nat.zero_mul] : (cellsP (l.drop nl)).length = 0), List.append_nil]) (by omega)))
                  clear ho4 hb4
                  go_wp2_with fail
                  go_ret2
                  exact HN4.out
                · by_cases h0 : 0 < nl
                  · obtain ⟨b, off, hA, _, _⟩ := (HP1.out w1 (Below.refl _ _)).open_ h0
                    have HA := Lib.hid hA
                    clear hA
                    have HRD : Hid (∀ x u, (cellsP (l.drop i))[x]? = some u → wc.cell? ⟨b, off + i * 2 + x, none⟩ = some u) := fun x u hx => by
                      obtain ⟨b', off', hA', _, hc⟩ := (HP1.out _ HB9.out).open_ (by omega)
                      rw [HA.out] at hA'
                      cases hA'
                      rw [Nat.add_assoc]
                      refine hc _ _ ?_
                      rw [← cellsP_drop, List.getElem?_drop] at hx
                      exact hx
                    have hA := HA.out
                    cases hA
                    go_wp2_with (first | (at_builtin; refine wpList_app_listS _ rfl _ _ 34 rfl w1.heap.size 65 zpair 2 32 Try.underlying34 info_pair rfl (by decide) (by decide) _ (i + 1) _ rfl HM9.out _ (nl - i) _ (cellsP (l.drop i)) rfl HDL.out (fun _ => ⟨b, off + i * 2, rfl, HRD.out⟩) cellsP_one' (by omega) hz9 ?_))
                    intro v4 w4 ho4 hb4
                    have HN4 := Lib.hid (HNEW.out _ _ v4 w4 (HB9.out.trans hb4) HLEN.out HE.out (ownS_conv ho4 (by first | exact HCAT.out | (rw [← List.append_assoc]; exact HCAT.out) | simpa using HCAT.out) (by first | rfl | omega)))
                    clear ho4 hb4
                    go_wp2_with fail
                    go_ret2
                    exact HN4.out
                  · obtain rfl : nl = 0 := by omega
                    obtain rfl : i = 0 := by omega
                    go_wp2_with (first | (at_builtin; refine wpList_app_listS _ rfl _ _ 34 rfl w1.heap.size 65 zpair 2 32 Try.underlying34 info_pair rfl (by decide) (by decide) _ (0 + 1) _ rfl HM9.out _ 0 _ (cellsP (l.drop 0)) rfl HDL.out (fun h => absurd h (by decide)) cellsP_one' (by omega) hz9 ?_))
                    intro v4 w4 ho4 hb4
                    have HN4 := Lib.hid (HNEW.out _ _ v4 w4 (HB9.out.trans hb4) HLEN.out HE.out (ownS_conv ho4 (by first | exact HCAT.out | (rw [← List.append_assoc]; exact HCAT.out) | simpa using HCAT.out) (by first | rfl | omega)))
                    clear ho4 hb4
                    go_wp2_with fail
                    go_ret2
                    exact HN4.out
          · have j4 : 4032 - (nS : Int) < (nV : Int) := by omega
            have HE := Lib.hid (HBAD.out (by omega))
            clear HR3 HBAD
            go_enter Try.func10, Try.ntmps10
            go_upto_region 1 with fail
            rw [← HW.out]
            have b1 := (HBX.out w1 (Below.refl _ _)).2.1
            go_wp2_with fail
            refine HFD.out.mono ?_
            rintro e w2 ⟨rfl, d2, hw2⟩
            have hb2 : Below w1.heap.size w1 w2 := by rw [hw2]; exact below_n (Below.refl _ _) d2
            obtain ⟨x0, x1, x2⟩ := HBX.out w2 hb2
            clear hw2 b1
            go_wp2_with fail
            refine (HWI.out _).mono ?_
            rintro e w' ⟨rfl, rfl⟩
            go_wp2_with fail
            go_ret2
            exact HSAME.out 1 _ hb2 (HE.out)

end Go.Proofs.Ytaccmjgnggepjaa
