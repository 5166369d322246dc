/-
  Package dag's Trim, and the page's.
-/
import Derived.Test.YtejkeccoialogaaYCpD
import Derived.Test.YtejkeccoialogaaYApiA
import Derived.Test.YtejkeccoialogaaYRRnd
import Derived.Deep.RegionWith
import Derived.Deep.RegionLaw
import Derived.Test.YtejkeccoialogaaDSl
import Derived.Maps.AppendAt
import Derived.Test.YtejkeccoialogaaYRMay
import Derived.Test.YtejkeccoialogaaYAddB
import Derived.Test.YtejkeccoialogaaCalm
namespace Go.Proofs.Ytejkeccoialogaa
open Go.RowKit

/-- a graph of the call's own, and an answer -/
def TrimOk (N low : Int) (l : List CrtD) (w : World) (en : Ending) (w' : World) : Prop := ∃ o' ms', en = .returned (.tuple #[dagV N low o', .int .i64 0]) ∧ OwnY w.heap.size w' o' ms' ∧ ms'.map Prod.fst = aboveR l low ∧ Below w.heap.size w w'
theorem cut_end {w : World} {o : Ad} {ms : List (CrtD × CrtA)} {l : List CrtD} (h : RowY w o ms) (hl : ms.map Prod.fst = l) {c : Nat} (hc : c ≤ o.n) : GIn w (o.cut c o.n 6) (l.drop c) := by
  have h1 := h.part (i := c) (j := o.n) hc (Nat.le_refl _)
  refine ⟨_, h1, ?_⟩
  rw [List.take_of_length_le (by rw [List.length_drop, h.row.len]; exact Nat.le_refl _), List.map_drop, hl]
end Go.Proofs.Ytejkeccoialogaa
/-
  The page's Trim.
-/
namespace Go.Proofs.Ytejkeccoialogaa
open Go.RowKit

/-- append of an element of several cells, at a step of a statement whose order is open -/
theorem step_app_elemY (w : World) {ops : Array Oper} {o : Oper} {a : Act} {K : Act → World → Prop} {Q : Exit → Act → World → Prop} {E : Prop} (hgd : o.guard = none) (s x : Operand)
    (ho : o.op = .call { callee := .builtin .append, args := #[s, x], argTypes := #[22, 22] })
    (B : Nat) (v : Value) (n : Nat) (xs : List Value) (hs : a.eval s = v) (hown : w.ownsRow B 37 6 v n xs)
    (g : Nat) (y : CrtD) (ay : CrtA) (hx : a.eval x = .slice (some ⟨g, 0, none⟩) 1 1) (hc : ∀ i u, (crtC y ay)[i]? = some u → w.cell? ⟨g, i, none⟩ = some u)
    (hn : n ≤ 1000000) (hB : B ≤ w.heap.size)
    (h : ∀ g' c' w', w'.ownsRow B 37 6 (.slice (some ⟨g', 0, none⟩) (n + 1) c') (n + 1) (xs ++ crtC y ay) → w.grownBy w' v.ownBlock → K (a.put o.dst (.slice (some ⟨g', 0, none⟩) (n + 1) c')) w') : if Region.wanted o (yielded ops a.tmps) = true then Oper.wp Try.prog o a w K Q else E := by
  obtain ⟨i, hi, hz, hsize, hbytes⟩ := info_parts info_zcert
  refine step_append_lies (P := Try.prog) w hgd s x 22 ho B 37 i zcert 6 96 Try.underlying22 hi hz hsize hbytes rfl (by decide) v n xs hs hown ⟨g, 0, none⟩ 1 1 (crtC y ay) hx rfl ?_ (fun u hu => List.all_eq_true.1 (show (crtC y ay).all (·.oneCell') = true from rfl) u hu) (by decide) (by unfold maxLen; omega) (by omega) hB _ rfl ?_
  · intro j u hj
    rw [Addr.add_lit, Nat.zero_add]
    exact hc j u hj
  · intro g' cap w' hown' hg _ _
    exact h g' cap w' hown' hg
theorem copyY_wp {w : World} {o : Oper} {a : Act} {K : Act → World → Prop} {Q : Exit → Act → World → Prop} {s : Nat} {t : TypeId} {v : Value} (ho : o.op = .call { callee := .value (.func 14), args := #[.tmp s], argTypes := #[t] }) (hs : a.tmps[s]? = some v) {R : Ending → World → Prop} (hc : Calls Try.prog 14 #[v] w R)
    (h : ∀ e w', R e w' → ∃ u, e = .returned u ∧ K (a.put o.dst u) w') : o.wp Try.prog a w K Q := by
  have he : a.eval (.tmp s) = v := by simp [Act.eval, hs]
  unfold Oper.wp execOp
  simp only [ho]
  go_simp
  refine hc.mono fun e w' hr => ?_
  obtain ⟨u, rfl, hk⟩ := h e w' hr
  exact hk
theorem step_copyY {w : World} {ops : Array Oper} {o : Oper} {a : Act} {K : Act → World → Prop} {Q : Exit → Act → World → Prop} {E : Prop} {s : Nat} {t : TypeId} {v : Value} (hgd : o.guard = none)
    (ho : o.op = .call { callee := .value (.func 14), args := #[.tmp s], argTypes := #[t] }) (hs : a.tmps[s]? = some v) {R : Ending → World → Prop} (hc : Calls Try.prog 14 #[v] w R)
    (h : ∀ e w', R e w' → ∃ u, e = .returned u ∧ K (a.put o.dst u) w') : if Region.wanted o (yielded ops a.tmps) = true then Oper.wp Try.prog o a w K Q else E := by
  have hw : Region.wanted o (yielded ops a.tmps) = true := by simp [Region.wanted, hgd]
  rw [if_pos hw]
  exact copyY_wp ho hs hc h

def rTrimOk (N low : Int) (l : List CrtD) (w : World) (en : Ending) (w' : World) : Prop := ∃ o' ms', en = .returned (dagV N low o') ∧ OwnY w.heap.size w' o' ms' ∧ ms'.map Prod.fst = aboveR l low ∧ Below w.heap.size w w'
end Go.Proofs.Ytejkeccoialogaa
/-
  Two rows of certificates, one behind the other.
-/
namespace Go.Proofs.Ytejkeccoialogaa
open Go.RowKit

theorem cellsY_join (ms ns : List (CrtD × CrtA)) : cellsY (ms ++ ns) = cellsY ms ++ cellsY ns := by
  unfold cellsY
  exact List.flatMap_append
theorem OwnY.join {B : Nat} {w w1 w2 : World} {o o2 o' : Ad} {ms ns : List (CrtD × CrtA)} (h : OwnY B w o ms) (hb : Below w.heap.size w w1) (h2 : OwnY w.heap.size w1 o2 ns) (hB : B ≤ w.heap.size)
    (hg : w1.grownBy w2 o.v.ownBlock) (hr : w2.ownsRow B 37 6 o'.v o'.n (cellsY ms ++ cellsY ns)) (hn : o'.n = o.n + o2.n) : OwnY B w2 o' (ms ++ ns) := by
  have hT : Touch (fun k => o.v.ownBlock = some k) w1 w2 := Touch.grown hg fun k hk => hk
  refine ⟨by rw [cellsY_join]; exact hr, by rw [List.length_append, h.len, h2.len, hn], fun x hx => ?_, ?_⟩
  · rcases List.mem_append.1 hx with hx | hx
    · exact ((h.sub x hx).below hb).touch hT fun k hk => h.apart hx hk
    · refine ((h2.sub x hx).more hB).touch hT fun k hk hh => ?_
      have h3 := (own_lt h.row hk).1
      have h4 := ((h2.sub x hx).lt hh).2
      omega
  · refine List.pairwise_append.2 ⟨h.nod, h2.nod, fun x hx y hy k h1 h3 => ?_⟩
    have h4 := ((h.sub x hx).lt h1).1
    have h5 := ((h2.sub y hy).lt h3).2
    omega
/-- append of several elements: whatever lies there, nothing too -/
theorem run_app_rowsY {P : Program} (w : World) (t ty : TypeId) (B : Nat) (e : TypeId) (z : Value) (sz bytes : Nat) (ht : P.underlying t = some (.slice e)) (hinfo : (P.info? e).map (fun i => (i.zero, i.size, i.bytes)) = some (some z, sz, bytes)) (hzs : z.cells.size = sz) (hsz : 0 < sz) (hby : bytes ≤ 512)
    (v : Value) (n : Nat) (xs : List Value) (hown : w.ownsRow B e sz v n xs) (A : Option Addr) (m c : Nat) (news : List Value) (hm : news.length = m * sz) (hr : Rd w A news) (h1 : ∀ u ∈ news, u.oneCell' = true) (hn : n + m ≤ 2000000) (hB : B ≤ w.heap.size) :
    ∃ A' c' w', (Builtin.append_ #[t, t] ty #[v, .slice A m c]).run P w = .ok (.slice A' (n + m) c') w' ∧ w'.ownsRow B e sz (.slice A' (n + m) c') (n + m) (xs ++ news) ∧ w.grownBy w' v.ownBlock ∧ ((Value.slice A' (n + m) c').ownBlock = v.ownBlock ∨ (Value.slice A' (n + m) c').ownBlock = some w.heap.size) := by
  obtain ⟨i, hi, hz, hsize, hbytes⟩ := info_parts hinfo
  cases A with
  | none =>
    have hn0 : news = [] := by
      rcases Nat.eq_zero_or_pos news.length with h0 | h0
      · exact List.eq_nil_of_length_eq_zero h0
      · obtain ⟨b, off, he, _⟩ := hr.open_ h0
        cases he
    subst hn0
    have hm0 : m = 0 := by
      rcases Nat.eq_zero_or_pos m with h0 | h0
      · exact h0
      · have := Nat.mul_le_mul h0 hsz
        simp at hm
        omega
    subst hm0
    obtain ⟨A', c', rfl, hnc, _⟩ := ownS_slice hown
    refine ⟨A', c', w, ?_, by simpa using hown, ⟨rfl, rfl, rfl, Nat.le_refl _, fun _ _ _ => rfl⟩, .inl rfl⟩
    rcases hown.2 with ⟨hv, _⟩ | ⟨g, cap, cur, hv, _, _, hnc, _⟩
    · cases hv
      simp [Builtin.append_, run_underlying ht, sizeOf, typeInfo, hi, Builtin.lenOf, Builtin.firstCells]
    · cases hv
      simp [Builtin.append_, run_underlying ht, sizeOf, typeInfo, hi, Builtin.lenOf, Builtin.firstCells, hnc, storeCells]
  | some ad =>
    rcases Nat.eq_zero_or_pos m with h0 | h0
    · subst h0
      have hn0 : news = [] := List.eq_nil_of_length_eq_zero (by omega)
      subst hn0
      obtain ⟨v', w', hrun, h2, h3, _, h5⟩ := run_append_own_at (P := P) w B t ty e i z sz bytes ht hi hz hsize hbytes hzs hsz v n xs hown ad 0 c [] (by simp) (fun j y hj => by simp at hj) h1 (by unfold maxLen; omega) (by have := Nat.mul_le_mul hn hby; omega) hB
      obtain ⟨A', c', rfl, _⟩ := ownS_slice h2
      exact ⟨A', c', w', hrun, h2, h3, h5⟩
    · obtain ⟨v', w', hrun, h2, h3, _, h5⟩ := run_append_own_at (P := P) w B t ty e i z sz bytes ht hi hz hsize hbytes hzs hsz v n xs hown ad m c news hm (fun j y hj => by
        have hl : j < news.length := (List.getElem?_eq_some_iff.1 hj).1
        obtain ⟨b, off, he, _, hc⟩ := hr.open_ (by omega)
        cases he
        rw [Addr.add_lit]
        exact hc j y hj) h1 (by unfold maxLen; omega) (by have := Nat.mul_le_mul hn hby; omega) hB
      obtain ⟨A', c', rfl, _⟩ := ownS_slice h2
      exact ⟨A', c', w', hrun, h2, h3, h5⟩
set_option maxRecDepth 4000 in
/-- a whole row behind another: an empty one too -/
theorem step_app_rowsY (w : World) {ops : Array Oper} {o : Oper} {a : Act} {K : Act → World → Prop} {Q : Exit → Act → World → Prop} {E : Prop} (hgd : o.guard = none) (s x : Operand)
    (ho : o.op = .call { callee := .builtin .append, args := #[s, x], argTypes := #[22, 22] })
    (B C : Nat) (v : Value) (n : Nat) (xs : List Value) (hs : a.eval s = v) (hown : w.ownsRow B 37 6 v n xs)
    (A : Option Addr) (m c : Nat) (ns : List (CrtD × CrtA)) (hx : a.eval x = .slice A m c) (hr : w.ownsRow C 37 6 (.slice A m c) m (cellsY ns)) (hm : ns.length = m)
    (hn : n + m ≤ 2000000) (hB : B ≤ w.heap.size)
    (h : ∀ A' c' w', w'.ownsRow B 37 6 (.slice A' (n + m) c') (n + m) (xs ++ cellsY ns) → w.grownBy w' v.ownBlock → K (a.put o.dst (.slice A' (n + m) c')) w') : if Region.wanted o (yielded ops a.tmps) = true then Oper.wp Try.prog o a w K Q else E := by
  obtain ⟨A', c', w', hrun, h2, h3, -⟩ := run_app_rowsY (P := Try.prog) w 22 o.type B 37 zcert 6 96 Try.underlying22 info_zcert rfl (by decide) (by decide) v n xs hown A m c (cellsY ns) (by rw [cellsY_length, hm]) (rd_of_ownS hr).2.2 (fun u hu => by
    unfold cellsY at hu
    obtain ⟨y, -, hy⟩ := List.mem_flatMap.1 hu
    exact List.all_eq_true.1 (show (crtC y.1 y.2).all (·.oneCell') = true from rfl) u hy) hn hB
  exact step_app_run (P := Try.prog) w hgd s x 22 22 ho hs hx hrun (h A' c' w' h2 h3)

end Go.Proofs.Ytejkeccoialogaa
/-
  The page's Add: what is refused.
-/
namespace Go.Proofs.Ytejkeccoialogaa
open Go.RowKit

/-- refused: the graph as it was, and the error -/
def RAddErr (N L : Int) (o : Ad) (z : Int) (w : World) (en : Ending) (w' : World) : Prop := en = .returned (.tuple #[dagV N L o, .int .i64 z]) ∧ Below w.heap.size w w'
set_option maxRecDepth 100000 in
set_option maxHeartbeats 8000000 in
theorem rAdd_form (N L : Int) (o : Ad) (l : List CrtD) (x : CrtD) (a : CrtA) (w : World) (h : GIn w o l) (hi : CIn w x a) (hf : CrtFit x) (hok : x.ok N = false) :
    Calls Try.prog 13 #[dagV N L o, crtV x a] w (RAddErr N L o 1 w) := by
  obtain ⟨g, hg⟩ : ∃ g, g = w.heap.size := ⟨_, rfl⟩
  obtain ⟨w1, hw1⟩ : ∃ w1, w1 = (((w.alloc (.cells (dagC N L o).toArray 24)).alloc (.cells (crtC x a).toArray 37)).alloc (.cells (dagC 0 0 noAd).toArray 24)) := ⟨_, rfl⟩
  obtain ⟨hb1, hsz, hx0, hx1, hx2⟩ := boxes3 w _ _ _ _ _ _ hw1
  rw [← hg] at hb1 hsz hx0 hx1 hx2
  have HG : Hid (w.heap.size = g) := hg.symm
  have HW : Hid ((((w.alloc (.cells #[.int .i64 N, .int .i64 L, .slice o.A o.n o.c] 24)).alloc (.cells #[.int .i64 x.a, .int .i64 x.r, .slice a.B.A a.B.n a.B.c, .slice a.P.A a.P.n a.P.c, .int .i64 x.d, .slice a.S.A a.S.n a.S.c] 37)).alloc (.cells #[.int .i64 0, .int .i64 0, .slice none 0 0] 24)) = w1) := hw1.symm
  have HIN : Hid (∀ wX, Below g w wX → GIn wX o l) := fun wX hb => h.below (by rw [← hg]; exact hb)
  have HCI : Hid (∀ wX, Below g w wX → CIn wX x a) := fun wX hb => hi.below (by rw [← hg]; exact hb)
  have HB := Lib.hid hb1
  have HSZ := Lib.hid hsz
  have HX0 := Lib.hid hx0
  have HX1 := Lib.hid hx1
  have HX2 := Lib.hid hx2
  have HD : Hid (∀ wX, Below w1.heap.size w1 wX → (wX.cell? ⟨g, 0, none⟩ = some (.int .i64 N) ∧ wX.cell? ⟨g, 1, none⟩ = some (.int .i64 L) ∧ wX.cell? ⟨g, 2, none⟩ = some (.slice o.A o.n o.c)) ∧ (wX.cell? ⟨g + 1, 0, none⟩ = some (.int .i64 x.a) ∧ wX.cell? ⟨g + 1, 1, none⟩ = some (.int .i64 x.r) ∧ wX.cell? ⟨g + 1, 2, none⟩ = some (.slice a.B.A a.B.n a.B.c) ∧ wX.cell? ⟨g + 1, 3, none⟩ = some (.slice a.P.A a.P.n a.P.c) ∧ wX.cell? ⟨g + 1, 4, none⟩ = some (.int .i64 x.d) ∧ wX.cell? ⟨g + 1, 5, none⟩ = some (.slice a.S.A a.S.n a.S.c))) := fun wX hb => ⟨dag_cells (HX0.out.below hb HX0.out.1), crt_cells (HX1.out.below hb HX1.out.1)⟩
  have HOK : Hid (Calls Try.prog 44 #[.agg #[.int .i64 x.a, .int .i64 x.r, .slice a.B.A a.B.n a.B.c, .slice a.P.A a.P.n a.P.c, .int .i64 x.d, .slice a.S.A a.S.n a.S.c], .int .i64 N] w1 fun e w' => e = .returned (.bool false) ∧ Below w1.heap.size w1 w') := by
    have := rcertC_is N x a w1 (HCI.out _ hb1) hf
    rwa [hok] at this
  clear h hi hok hg hw1 hb1 hsz hx0 hx1 hx2 hf
  unfold dagV crtV
  have hgs := HX0.out.1
  have hz1 := HSZ.out
  obtain ⟨⟨d10, d11, d12⟩, c10, c11, c12, c13, c14, c15⟩ := HD.out w1 (Below.refl _ _)
  go_enter Try.func13, Try.ntmps13
  go_upto_region 1 with fail
  rw [HG.out, HW.out]
  go_wp2_with (first
    | (go_at_call 44; refine HOK.out.mono ?_; rintro e w2 ⟨rfl, hb12⟩; obtain ⟨⟨d20, d21, d22⟩, c20, c21, c22, c23, c24, c25⟩ := HD.out w2 hb12)
    | (refine wpList_store_box rfl 24 _ _ rfl (g + 2) 0 (dagC N L o) (dagC 0 0 noAd) (dagC N L o) rfl rfl (HX2.out.below hb12 HX2.out.1) (show 0 + 3 ≤ 3 by decide) rfl size_dag rfl ?_))
  intro w9 by9 T9
  have t9 := T9 (fun k => k = g + 2) rfl
  obtain ⟨r0, r1, r2⟩ := dag_cells by9
  have hb9 : Below g w w9 := (HB.out.trans (hb12.mono (Nat.le_of_lt hgs))).trans (t9.below (fun k hk => by have e : k = g + 2 := hk; omega) (by have := hb12.size; omega))
  go_wp2_with fail
  refine bodyPost_ret (v := .tuple #[dagV N L o, .int .i64 1]) (by simp [results, Try.results13, go_sem, r0, r1, r2, dagV]) rfl ⟨rfl, ?_⟩
  rw [HG.out]
  exact hb9


set_option maxRecDepth 100000 in
set_option maxHeartbeats 8000000 in
theorem rAdd_old (N L : Int) (o : Ad) (l : List CrtD) (x : CrtD) (a : CrtA) (w : World) (h : GIn w o l) (hi : CIn w x a) (hf : CrtFit x) (hok : x.ok N = true) (hr : x.r ≤ L) :
    Calls Try.prog 13 #[dagV N L o, crtV x a] w (RAddErr N L o 6 w) := by
  obtain ⟨g, hg⟩ : ∃ g, g = w.heap.size := ⟨_, rfl⟩
  obtain ⟨w1, hw1⟩ : ∃ w1, w1 = (((w.alloc (.cells (dagC N L o).toArray 24)).alloc (.cells (crtC x a).toArray 37)).alloc (.cells (dagC 0 0 noAd).toArray 24)) := ⟨_, rfl⟩
  obtain ⟨hb1, hsz, hx0, hx1, hx2⟩ := boxes3 w _ _ _ _ _ _ hw1
  rw [← hg] at hb1 hsz hx0 hx1 hx2
  have HG : Hid (w.heap.size = g) := hg.symm
  have HW : Hid ((((w.alloc (.cells #[.int .i64 N, .int .i64 L, .slice o.A o.n o.c] 24)).alloc (.cells #[.int .i64 x.a, .int .i64 x.r, .slice a.B.A a.B.n a.B.c, .slice a.P.A a.P.n a.P.c, .int .i64 x.d, .slice a.S.A a.S.n a.S.c] 37)).alloc (.cells #[.int .i64 0, .int .i64 0, .slice none 0 0] 24)) = w1) := hw1.symm
  have HIN : Hid (∀ wX, Below g w wX → GIn wX o l) := fun wX hb => h.below (by rw [← hg]; exact hb)
  have HCI : Hid (∀ wX, Below g w wX → CIn wX x a) := fun wX hb => hi.below (by rw [← hg]; exact hb)
  have HB := Lib.hid hb1
  have HSZ := Lib.hid hsz
  have HX0 := Lib.hid hx0
  have HX1 := Lib.hid hx1
  have HX2 := Lib.hid hx2
  have HD : Hid (∀ wX, Below w1.heap.size w1 wX → (wX.cell? ⟨g, 0, none⟩ = some (.int .i64 N) ∧ wX.cell? ⟨g, 1, none⟩ = some (.int .i64 L) ∧ wX.cell? ⟨g, 2, none⟩ = some (.slice o.A o.n o.c)) ∧ (wX.cell? ⟨g + 1, 0, none⟩ = some (.int .i64 x.a) ∧ wX.cell? ⟨g + 1, 1, none⟩ = some (.int .i64 x.r) ∧ wX.cell? ⟨g + 1, 2, none⟩ = some (.slice a.B.A a.B.n a.B.c) ∧ wX.cell? ⟨g + 1, 3, none⟩ = some (.slice a.P.A a.P.n a.P.c) ∧ wX.cell? ⟨g + 1, 4, none⟩ = some (.int .i64 x.d) ∧ wX.cell? ⟨g + 1, 5, none⟩ = some (.slice a.S.A a.S.n a.S.c))) := fun wX hb => ⟨dag_cells (HX0.out.below hb HX0.out.1), crt_cells (HX1.out.below hb HX1.out.1)⟩
  have HOK : Hid (Calls Try.prog 44 #[.agg #[.int .i64 x.a, .int .i64 x.r, .slice a.B.A a.B.n a.B.c, .slice a.P.A a.P.n a.P.c, .int .i64 x.d, .slice a.S.A a.S.n a.S.c], .int .i64 N] w1 fun e w' => e = .returned (.bool true) ∧ Below w1.heap.size w1 w') := by
    have := rcertC_is N x a w1 (HCI.out _ hb1) hf
    rwa [hok] at this
  clear h hi hok hg hw1 hb1 hsz hx0 hx1 hx2 hf
  unfold dagV crtV
  have hgs := HX0.out.1
  have hz1 := HSZ.out
  obtain ⟨⟨d10, d11, d12⟩, c10, c11, c12, c13, c14, c15⟩ := HD.out w1 (Below.refl _ _)
  go_enter Try.func13, Try.ntmps13
  go_upto_region 1 with fail
  rw [HG.out, HW.out]
  go_wp2_with (first
    | (go_at_call 44; refine HOK.out.mono ?_; rintro e w2 ⟨rfl, hb12⟩; obtain ⟨⟨d20, d21, d22⟩, c20, c21, c22, c23, c24, c25⟩ := HD.out w2 hb12)
    | (refine wpList_store_box rfl 24 _ _ rfl (g + 2) 0 (dagC N L o) (dagC 0 0 noAd) (dagC N L o) rfl rfl (HX2.out.below hb12 HX2.out.1) (show 0 + 3 ≤ 3 by decide) rfl size_dag rfl ?_))
  intro w9 by9 T9
  have t9 := T9 (fun k => k = g + 2) rfl
  obtain ⟨r0, r1, r2⟩ := dag_cells by9
  have hb9 : Below g w w9 := (HB.out.trans (hb12.mono (Nat.le_of_lt hgs))).trans (t9.below (fun k hk => by have e : k = g + 2 := hk; omega) (by have := hb12.size; omega))
  go_wp2_with fail
  refine bodyPost_ret (v := .tuple #[dagV N L o, .int .i64 6]) (by simp [results, Try.results13, go_sem, r0, r1, r2, dagV]) rfl ⟨rfl, ?_⟩
  rw [HG.out]
  exact hb9


set_option maxRecDepth 100000 in
set_option maxHeartbeats 8000000 in
theorem rAdd_there (N L : Int) (o : Ad) (l : List CrtD) (x : CrtD) (a : CrtA) (w : World) (h : GIn w o l) (hi : CIn w x a) (hf : CrtFit x) (hok : x.ok N = true) (hr : ¬ (x.r ≤ L)) (ai : Int) (hai : idxF (neA x.r x.a) l = ai) (hbi : idxF (neD x.d) l = ai) (h1 : 0 ≤ ai) :
    Calls Try.prog 13 #[dagV N L o, crtV x a] w (RAddErr N L o 4 w) := by
  obtain ⟨g, hg⟩ : ∃ g, g = w.heap.size := ⟨_, rfl⟩
  obtain ⟨w1, hw1⟩ : ∃ w1, w1 = (((w.alloc (.cells (dagC N L o).toArray 24)).alloc (.cells (crtC x a).toArray 37)).alloc (.cells (dagC 0 0 noAd).toArray 24)) := ⟨_, rfl⟩
  obtain ⟨hb1, hsz, hx0, hx1, hx2⟩ := boxes3 w _ _ _ _ _ _ hw1
  rw [← hg] at hb1 hsz hx0 hx1 hx2
  have HG : Hid (w.heap.size = g) := hg.symm
  have HW : Hid ((((w.alloc (.cells #[.int .i64 N, .int .i64 L, .slice o.A o.n o.c] 24)).alloc (.cells #[.int .i64 x.a, .int .i64 x.r, .slice a.B.A a.B.n a.B.c, .slice a.P.A a.P.n a.P.c, .int .i64 x.d, .slice a.S.A a.S.n a.S.c] 37)).alloc (.cells #[.int .i64 0, .int .i64 0, .slice none 0 0] 24)) = w1) := hw1.symm
  have HIN : Hid (∀ wX, Below g w wX → GIn wX o l) := fun wX hb => h.below (by rw [← hg]; exact hb)
  have HCI : Hid (∀ wX, Below g w wX → CIn wX x a) := fun wX hb => hi.below (by rw [← hg]; exact hb)
  have HB := Lib.hid hb1
  have HSZ := Lib.hid hsz
  have HX0 := Lib.hid hx0
  have HX1 := Lib.hid hx1
  have HX2 := Lib.hid hx2
  have HD : Hid (∀ wX, Below w1.heap.size w1 wX → (wX.cell? ⟨g, 0, none⟩ = some (.int .i64 N) ∧ wX.cell? ⟨g, 1, none⟩ = some (.int .i64 L) ∧ wX.cell? ⟨g, 2, none⟩ = some (.slice o.A o.n o.c)) ∧ (wX.cell? ⟨g + 1, 0, none⟩ = some (.int .i64 x.a) ∧ wX.cell? ⟨g + 1, 1, none⟩ = some (.int .i64 x.r) ∧ wX.cell? ⟨g + 1, 2, none⟩ = some (.slice a.B.A a.B.n a.B.c) ∧ wX.cell? ⟨g + 1, 3, none⟩ = some (.slice a.P.A a.P.n a.P.c) ∧ wX.cell? ⟨g + 1, 4, none⟩ = some (.int .i64 x.d) ∧ wX.cell? ⟨g + 1, 5, none⟩ = some (.slice a.S.A a.S.n a.S.c))) := fun wX hb => ⟨dag_cells (HX0.out.below hb HX0.out.1), crt_cells (HX1.out.below hb HX1.out.1)⟩
  have HOK : Hid (Calls Try.prog 44 #[.agg #[.int .i64 x.a, .int .i64 x.r, .slice a.B.A a.B.n a.B.c, .slice a.P.A a.P.n a.P.c, .int .i64 x.d, .slice a.S.A a.S.n a.S.c], .int .i64 N] w1 fun e w' => e = .returned (.bool true) ∧ Below w1.heap.size w1 w') := by
    have := rcertC_is N x a w1 (HCI.out _ hb1) hf
    rwa [hok] at this
  have hgs' := hx0.1
  have HAT : Hid (∀ wX, Below w1.heap.size w1 wX → Calls Try.prog 45 #[.agg #[.int .i64 N, .int .i64 L, .slice o.A o.n o.c], .int .i64 x.r, .int .i64 x.a] wX fun e w' => e = .returned (.int .i64 ai) ∧ Below wX.heap.size wX w') := fun wX hb => by
    have := rAt_is N L x.r x.a o l wX (HIN.out wX (HB.out.trans (hb.mono (Nat.le_of_lt HX0.out.1))))
    rwa [hai] at this
  have HFI : Hid (∀ wX, Below w1.heap.size w1 wX → Calls Try.prog 41 #[.agg #[.int .i64 N, .int .i64 L, .slice o.A o.n o.c], .int .i64 x.d] wX fun e w' => e = .returned (.int .i64 ai) ∧ Below wX.heap.size wX w') := fun wX hb => by
    have := rFind_is N L x.d o l wX (HIN.out wX (HB.out.trans (hb.mono (Nat.le_of_lt HX0.out.1))))
    rwa [hbi] at this
  clear h hi hok hg hw1 hb1 hsz hx0 hx1 hx2 hai hbi hgs' hf
  unfold dagV crtV
  have hgs := HX0.out.1
  have hz1 := HSZ.out
  obtain ⟨⟨d10, d11, d12⟩, c10, c11, c12, c13, c14, c15⟩ := HD.out w1 (Below.refl _ _)
  go_enter Try.func13, Try.ntmps13
  go_upto_region 1 with fail
  rw [HG.out, HW.out]
  go_wp2_with (first
    | (go_at_call 44; refine HOK.out.mono ?_; rintro e w2 ⟨rfl, hb12⟩; obtain ⟨⟨d20, d21, d22⟩, c20, c21, c22, c23, c24, c25⟩ := HD.out w2 hb12)
    | (go_at_call 45; refine (HAT.out _ hb12).mono ?_; rintro e w3 ⟨rfl, hb23⟩; have hb13 := hb12.trans (hb23.mono hb12.size); obtain ⟨⟨d30, d31, d32⟩, c30, c31, c32, c33, c34, c35⟩ := HD.out w3 hb13)
    | (go_at_call 41; refine (HFI.out _ hb13).mono ?_; rintro e w4 ⟨rfl, hb34⟩; have hb14 := hb13.trans (hb34.mono hb13.size); obtain ⟨⟨d40, d41, d42⟩, c40, c41, c42, c43, c44, c45⟩ := HD.out w4 hb14)
    | (refine wpList_store_box rfl 24 _ _ rfl (g + 2) 0 (dagC N L o) (dagC 0 0 noAd) (dagC N L o) rfl rfl (HX2.out.below hb14 HX2.out.1) (show 0 + 3 ≤ 3 by decide) rfl size_dag rfl ?_))
  intro w9 by9 T9
  have t9 := T9 (fun k => k = g + 2) rfl
  obtain ⟨r0, r1, r2⟩ := dag_cells by9
  have hb9 : Below g w w9 := (HB.out.trans (hb14.mono (Nat.le_of_lt hgs))).trans (t9.below (fun k hk => by have e : k = g + 2 := hk; omega) (by have := hb14.size; omega))
  go_wp2_with fail
  refine bodyPost_ret (v := .tuple #[dagV N L o, .int .i64 4]) (by simp [results, Try.results13, go_sem, r0, r1, r2, dagV]) rfl ⟨rfl, ?_⟩
  rw [HG.out]
  exact hb9


set_option maxRecDepth 100000 in
set_option maxHeartbeats 8000000 in
theorem rAdd_two (N L : Int) (o : Ad) (l : List CrtD) (x : CrtD) (a : CrtA) (w : World) (h : GIn w o l) (hi : CIn w x a) (hf : CrtFit x) (hok : x.ok N = true) (hr : ¬ (x.r ≤ L)) (ai bi : Int) (hai : idxF (neA x.r x.a) l = ai) (hbi : idxF (neD x.d) l = bi) (h1 : 0 ≤ ai) (h2 : ai ≠ bi) :
    Calls Try.prog 13 #[dagV N L o, crtV x a] w (RAddErr N L o 5 w) := by
  obtain ⟨g, hg⟩ : ∃ g, g = w.heap.size := ⟨_, rfl⟩
  obtain ⟨w1, hw1⟩ : ∃ w1, w1 = (((w.alloc (.cells (dagC N L o).toArray 24)).alloc (.cells (crtC x a).toArray 37)).alloc (.cells (dagC 0 0 noAd).toArray 24)) := ⟨_, rfl⟩
  obtain ⟨hb1, hsz, hx0, hx1, hx2⟩ := boxes3 w _ _ _ _ _ _ hw1
  rw [← hg] at hb1 hsz hx0 hx1 hx2
  have HG : Hid (w.heap.size = g) := hg.symm
  have HW : Hid ((((w.alloc (.cells #[.int .i64 N, .int .i64 L, .slice o.A o.n o.c] 24)).alloc (.cells #[.int .i64 x.a, .int .i64 x.r, .slice a.B.A a.B.n a.B.c, .slice a.P.A a.P.n a.P.c, .int .i64 x.d, .slice a.S.A a.S.n a.S.c] 37)).alloc (.cells #[.int .i64 0, .int .i64 0, .slice none 0 0] 24)) = w1) := hw1.symm
  have HIN : Hid (∀ wX, Below g w wX → GIn wX o l) := fun wX hb => h.below (by rw [← hg]; exact hb)
  have HCI : Hid (∀ wX, Below g w wX → CIn wX x a) := fun wX hb => hi.below (by rw [← hg]; exact hb)
  have HB := Lib.hid hb1
  have HSZ := Lib.hid hsz
  have HX0 := Lib.hid hx0
  have HX1 := Lib.hid hx1
  have HX2 := Lib.hid hx2
  have HD : Hid (∀ wX, Below w1.heap.size w1 wX → (wX.cell? ⟨g, 0, none⟩ = some (.int .i64 N) ∧ wX.cell? ⟨g, 1, none⟩ = some (.int .i64 L) ∧ wX.cell? ⟨g, 2, none⟩ = some (.slice o.A o.n o.c)) ∧ (wX.cell? ⟨g + 1, 0, none⟩ = some (.int .i64 x.a) ∧ wX.cell? ⟨g + 1, 1, none⟩ = some (.int .i64 x.r) ∧ wX.cell? ⟨g + 1, 2, none⟩ = some (.slice a.B.A a.B.n a.B.c) ∧ wX.cell? ⟨g + 1, 3, none⟩ = some (.slice a.P.A a.P.n a.P.c) ∧ wX.cell? ⟨g + 1, 4, none⟩ = some (.int .i64 x.d) ∧ wX.cell? ⟨g + 1, 5, none⟩ = some (.slice a.S.A a.S.n a.S.c))) := fun wX hb => ⟨dag_cells (HX0.out.below hb HX0.out.1), crt_cells (HX1.out.below hb HX1.out.1)⟩
  have HOK : Hid (Calls Try.prog 44 #[.agg #[.int .i64 x.a, .int .i64 x.r, .slice a.B.A a.B.n a.B.c, .slice a.P.A a.P.n a.P.c, .int .i64 x.d, .slice a.S.A a.S.n a.S.c], .int .i64 N] w1 fun e w' => e = .returned (.bool true) ∧ Below w1.heap.size w1 w') := by
    have := rcertC_is N x a w1 (HCI.out _ hb1) hf
    rwa [hok] at this
  have hgs' := hx0.1
  have HAT : Hid (∀ wX, Below w1.heap.size w1 wX → Calls Try.prog 45 #[.agg #[.int .i64 N, .int .i64 L, .slice o.A o.n o.c], .int .i64 x.r, .int .i64 x.a] wX fun e w' => e = .returned (.int .i64 ai) ∧ Below wX.heap.size wX w') := fun wX hb => by
    have := rAt_is N L x.r x.a o l wX (HIN.out wX (HB.out.trans (hb.mono (Nat.le_of_lt HX0.out.1))))
    rwa [hai] at this
  have HFI : Hid (∀ wX, Below w1.heap.size w1 wX → Calls Try.prog 41 #[.agg #[.int .i64 N, .int .i64 L, .slice o.A o.n o.c], .int .i64 x.d] wX fun e w' => e = .returned (.int .i64 bi) ∧ Below wX.heap.size wX w') := fun wX hb => by
    have := rFind_is N L x.d o l wX (HIN.out wX (HB.out.trans (hb.mono (Nat.le_of_lt HX0.out.1))))
    rwa [hbi] at this
  have j1 : (ai == bi) = false := by simp [h2]
  clear h hi hok hg hw1 hb1 hsz hx0 hx1 hx2 hai hbi hgs' h2 hf
  unfold dagV crtV
  have hgs := HX0.out.1
  have hz1 := HSZ.out
  obtain ⟨⟨d10, d11, d12⟩, c10, c11, c12, c13, c14, c15⟩ := HD.out w1 (Below.refl _ _)
  go_enter Try.func13, Try.ntmps13
  go_upto_region 1 with fail
  rw [HG.out, HW.out]
  go_wp2_with (first
    | (go_at_call 44; refine HOK.out.mono ?_; rintro e w2 ⟨rfl, hb12⟩; obtain ⟨⟨d20, d21, d22⟩, c20, c21, c22, c23, c24, c25⟩ := HD.out w2 hb12)
    | (go_at_call 45; refine (HAT.out _ hb12).mono ?_; rintro e w3 ⟨rfl, hb23⟩; have hb13 := hb12.trans (hb23.mono hb12.size); obtain ⟨⟨d30, d31, d32⟩, c30, c31, c32, c33, c34, c35⟩ := HD.out w3 hb13)
    | (go_at_call 41; refine (HFI.out _ hb13).mono ?_; rintro e w4 ⟨rfl, hb34⟩; have hb14 := hb13.trans (hb34.mono hb13.size); obtain ⟨⟨d40, d41, d42⟩, c40, c41, c42, c43, c44, c45⟩ := HD.out w4 hb14)
    | (refine wpList_store_box rfl 24 _ _ rfl (g + 2) 0 (dagC N L o) (dagC 0 0 noAd) (dagC N L o) rfl rfl (HX2.out.below hb14 HX2.out.1) (show 0 + 3 ≤ 3 by decide) rfl size_dag rfl ?_))
  intro w9 by9 T9
  have t9 := T9 (fun k => k = g + 2) rfl
  obtain ⟨r0, r1, r2⟩ := dag_cells by9
  have hb9 : Below g w w9 := (HB.out.trans (hb14.mono (Nat.le_of_lt hgs))).trans (t9.below (fun k hk => by have e : k = g + 2 := hk; omega) (by have := hb14.size; omega))
  go_wp2_with fail
  refine bodyPost_ret (v := .tuple #[dagV N L o, .int .i64 5]) (by simp [results, Try.results13, go_sem, r0, r1, r2, dagV]) rfl ⟨rfl, ?_⟩
  rw [HG.out]
  exact hb9


set_option maxRecDepth 100000 in
set_option maxHeartbeats 8000000 in
theorem rAdd_dig (N L : Int) (o : Ad) (l : List CrtD) (x : CrtD) (a : CrtA) (w : World) (h : GIn w o l) (hi : CIn w x a) (hf : CrtFit x) (hok : x.ok N = true) (hr : ¬ (x.r ≤ L)) (ai bi : Int) (hai : idxF (neA x.r x.a) l = ai) (hbi : idxF (neD x.d) l = bi) (h1 : ¬ (0 ≤ ai)) (h2 : 0 ≤ bi) :
    Calls Try.prog 13 #[dagV N L o, crtV x a] w (RAddErr N L o 5 w) := by
  obtain ⟨g, hg⟩ : ∃ g, g = w.heap.size := ⟨_, rfl⟩
  obtain ⟨w1, hw1⟩ : ∃ w1, w1 = (((w.alloc (.cells (dagC N L o).toArray 24)).alloc (.cells (crtC x a).toArray 37)).alloc (.cells (dagC 0 0 noAd).toArray 24)) := ⟨_, rfl⟩
  obtain ⟨hb1, hsz, hx0, hx1, hx2⟩ := boxes3 w _ _ _ _ _ _ hw1
  rw [← hg] at hb1 hsz hx0 hx1 hx2
  have HG : Hid (w.heap.size = g) := hg.symm
  have HW : Hid ((((w.alloc (.cells #[.int .i64 N, .int .i64 L, .slice o.A o.n o.c] 24)).alloc (.cells #[.int .i64 x.a, .int .i64 x.r, .slice a.B.A a.B.n a.B.c, .slice a.P.A a.P.n a.P.c, .int .i64 x.d, .slice a.S.A a.S.n a.S.c] 37)).alloc (.cells #[.int .i64 0, .int .i64 0, .slice none 0 0] 24)) = w1) := hw1.symm
  have HIN : Hid (∀ wX, Below g w wX → GIn wX o l) := fun wX hb => h.below (by rw [← hg]; exact hb)
  have HCI : Hid (∀ wX, Below g w wX → CIn wX x a) := fun wX hb => hi.below (by rw [← hg]; exact hb)
  have HB := Lib.hid hb1
  have HSZ := Lib.hid hsz
  have HX0 := Lib.hid hx0
  have HX1 := Lib.hid hx1
  have HX2 := Lib.hid hx2
  have HD : Hid (∀ wX, Below w1.heap.size w1 wX → (wX.cell? ⟨g, 0, none⟩ = some (.int .i64 N) ∧ wX.cell? ⟨g, 1, none⟩ = some (.int .i64 L) ∧ wX.cell? ⟨g, 2, none⟩ = some (.slice o.A o.n o.c)) ∧ (wX.cell? ⟨g + 1, 0, none⟩ = some (.int .i64 x.a) ∧ wX.cell? ⟨g + 1, 1, none⟩ = some (.int .i64 x.r) ∧ wX.cell? ⟨g + 1, 2, none⟩ = some (.slice a.B.A a.B.n a.B.c) ∧ wX.cell? ⟨g + 1, 3, none⟩ = some (.slice a.P.A a.P.n a.P.c) ∧ wX.cell? ⟨g + 1, 4, none⟩ = some (.int .i64 x.d) ∧ wX.cell? ⟨g + 1, 5, none⟩ = some (.slice a.S.A a.S.n a.S.c))) := fun wX hb => ⟨dag_cells (HX0.out.below hb HX0.out.1), crt_cells (HX1.out.below hb HX1.out.1)⟩
  have HOK : Hid (Calls Try.prog 44 #[.agg #[.int .i64 x.a, .int .i64 x.r, .slice a.B.A a.B.n a.B.c, .slice a.P.A a.P.n a.P.c, .int .i64 x.d, .slice a.S.A a.S.n a.S.c], .int .i64 N] w1 fun e w' => e = .returned (.bool true) ∧ Below w1.heap.size w1 w') := by
    have := rcertC_is N x a w1 (HCI.out _ hb1) hf
    rwa [hok] at this
  have hgs' := hx0.1
  have HAT : Hid (∀ wX, Below w1.heap.size w1 wX → Calls Try.prog 45 #[.agg #[.int .i64 N, .int .i64 L, .slice o.A o.n o.c], .int .i64 x.r, .int .i64 x.a] wX fun e w' => e = .returned (.int .i64 ai) ∧ Below wX.heap.size wX w') := fun wX hb => by
    have := rAt_is N L x.r x.a o l wX (HIN.out wX (HB.out.trans (hb.mono (Nat.le_of_lt HX0.out.1))))
    rwa [hai] at this
  have HFI : Hid (∀ wX, Below w1.heap.size w1 wX → Calls Try.prog 41 #[.agg #[.int .i64 N, .int .i64 L, .slice o.A o.n o.c], .int .i64 x.d] wX fun e w' => e = .returned (.int .i64 bi) ∧ Below wX.heap.size wX w') := fun wX hb => by
    have := rFind_is N L x.d o l wX (HIN.out wX (HB.out.trans (hb.mono (Nat.le_of_lt HX0.out.1))))
    rwa [hbi] at this
  clear h hi hok hg hw1 hb1 hsz hx0 hx1 hx2 hai hbi hgs' hf
  unfold dagV crtV
  have hgs := HX0.out.1
  have hz1 := HSZ.out
  obtain ⟨⟨d10, d11, d12⟩, c10, c11, c12, c13, c14, c15⟩ := HD.out w1 (Below.refl _ _)
  go_enter Try.func13, Try.ntmps13
  go_upto_region 1 with fail
  rw [HG.out, HW.out]
  go_wp2_with (first
    | (go_at_call 44; refine HOK.out.mono ?_; rintro e w2 ⟨rfl, hb12⟩; obtain ⟨⟨d20, d21, d22⟩, c20, c21, c22, c23, c24, c25⟩ := HD.out w2 hb12)
    | (go_at_call 45; refine (HAT.out _ hb12).mono ?_; rintro e w3 ⟨rfl, hb23⟩; have hb13 := hb12.trans (hb23.mono hb12.size); obtain ⟨⟨d30, d31, d32⟩, c30, c31, c32, c33, c34, c35⟩ := HD.out w3 hb13)
    | (go_at_call 41; refine (HFI.out _ hb13).mono ?_; rintro e w4 ⟨rfl, hb34⟩; have hb14 := hb13.trans (hb34.mono hb13.size); obtain ⟨⟨d40, d41, d42⟩, c40, c41, c42, c43, c44, c45⟩ := HD.out w4 hb14)
    | (refine wpList_store_box rfl 24 _ _ rfl (g + 2) 0 (dagC N L o) (dagC 0 0 noAd) (dagC N L o) rfl rfl (HX2.out.below hb14 HX2.out.1) (show 0 + 3 ≤ 3 by decide) rfl size_dag rfl ?_))
  intro w9 by9 T9
  have t9 := T9 (fun k => k = g + 2) rfl
  obtain ⟨r0, r1, r2⟩ := dag_cells by9
  have hb9 : Below g w w9 := (HB.out.trans (hb14.mono (Nat.le_of_lt hgs))).trans (t9.below (fun k hk => by have e : k = g + 2 := hk; omega) (by have := hb14.size; omega))
  go_wp2_with fail
  refine bodyPost_ret (v := .tuple #[dagV N L o, .int .i64 5]) (by simp [results, Try.results13, go_sem, r0, r1, r2, dagV]) rfl ⟨rfl, ?_⟩
  rw [HG.out]
  exact hb9


set_option maxRecDepth 100000 in
set_option maxHeartbeats 8000000 in
theorem rAdd_lack (N L : Int) (o : Ad) (l : List CrtD) (x : CrtD) (a : CrtA) (w : World) (h : GIn w o l) (hi : CIn w x a) (hf : CrtFit x) (hok : x.ok N = true) (hr : ¬ (x.r ≤ L)) (ai bi : Int) (hai : idxF (neA x.r x.a) l = ai) (hbi : idxF (neD x.d) l = bi) (h1 : ¬ (0 ≤ ai)) (h2 : ¬ (0 ≤ bi)) (hl : lacksP L l x ≠ []) (hL : 0 ≤ L ∧ L ≤ 1099511627776) (hxr : 0 ≤ x.r ∧ x.r ≤ 1099511627776) :
    Calls Try.prog 13 #[dagV N L o, crtV x a] w (RAddErr N L o 7 w) := by
  obtain ⟨g, hg⟩ : ∃ g, g = w.heap.size := ⟨_, rfl⟩
  obtain ⟨w1, hw1⟩ : ∃ w1, w1 = (((w.alloc (.cells (dagC N L o).toArray 24)).alloc (.cells (crtC x a).toArray 37)).alloc (.cells (dagC 0 0 noAd).toArray 24)) := ⟨_, rfl⟩
  obtain ⟨hb1, hsz, hx0, hx1, hx2⟩ := boxes3 w _ _ _ _ _ _ hw1
  rw [← hg] at hb1 hsz hx0 hx1 hx2
  have HG : Hid (w.heap.size = g) := hg.symm
  have HW : Hid ((((w.alloc (.cells #[.int .i64 N, .int .i64 L, .slice o.A o.n o.c] 24)).alloc (.cells #[.int .i64 x.a, .int .i64 x.r, .slice a.B.A a.B.n a.B.c, .slice a.P.A a.P.n a.P.c, .int .i64 x.d, .slice a.S.A a.S.n a.S.c] 37)).alloc (.cells #[.int .i64 0, .int .i64 0, .slice none 0 0] 24)) = w1) := hw1.symm
  have HIN : Hid (∀ wX, Below g w wX → GIn wX o l) := fun wX hb => h.below (by rw [← hg]; exact hb)
  have HCI : Hid (∀ wX, Below g w wX → CIn wX x a) := fun wX hb => hi.below (by rw [← hg]; exact hb)
  have HB := Lib.hid hb1
  have HSZ := Lib.hid hsz
  have HX0 := Lib.hid hx0
  have HX1 := Lib.hid hx1
  have HX2 := Lib.hid hx2
  have HD : Hid (∀ wX, Below w1.heap.size w1 wX → (wX.cell? ⟨g, 0, none⟩ = some (.int .i64 N) ∧ wX.cell? ⟨g, 1, none⟩ = some (.int .i64 L) ∧ wX.cell? ⟨g, 2, none⟩ = some (.slice o.A o.n o.c)) ∧ (wX.cell? ⟨g + 1, 0, none⟩ = some (.int .i64 x.a) ∧ wX.cell? ⟨g + 1, 1, none⟩ = some (.int .i64 x.r) ∧ wX.cell? ⟨g + 1, 2, none⟩ = some (.slice a.B.A a.B.n a.B.c) ∧ wX.cell? ⟨g + 1, 3, none⟩ = some (.slice a.P.A a.P.n a.P.c) ∧ wX.cell? ⟨g + 1, 4, none⟩ = some (.int .i64 x.d) ∧ wX.cell? ⟨g + 1, 5, none⟩ = some (.slice a.S.A a.S.n a.S.c))) := fun wX hb => ⟨dag_cells (HX0.out.below hb HX0.out.1), crt_cells (HX1.out.below hb HX1.out.1)⟩
  have HOK : Hid (Calls Try.prog 44 #[.agg #[.int .i64 x.a, .int .i64 x.r, .slice a.B.A a.B.n a.B.c, .slice a.P.A a.P.n a.P.c, .int .i64 x.d, .slice a.S.A a.S.n a.S.c], .int .i64 N] w1 fun e w' => e = .returned (.bool true) ∧ Below w1.heap.size w1 w') := by
    have := rcertC_is N x a w1 (HCI.out _ hb1) hf
    rwa [hok] at this
  have hgs' := hx0.1
  have HAT : Hid (∀ wX, Below w1.heap.size w1 wX → Calls Try.prog 45 #[.agg #[.int .i64 N, .int .i64 L, .slice o.A o.n o.c], .int .i64 x.r, .int .i64 x.a] wX fun e w' => e = .returned (.int .i64 ai) ∧ Below wX.heap.size wX w') := fun wX hb => by
    have := rAt_is N L x.r x.a o l wX (HIN.out wX (HB.out.trans (hb.mono (Nat.le_of_lt HX0.out.1))))
    rwa [hai] at this
  have HFI : Hid (∀ wX, Below w1.heap.size w1 wX → Calls Try.prog 41 #[.agg #[.int .i64 N, .int .i64 L, .slice o.A o.n o.c], .int .i64 x.d] wX fun e w' => e = .returned (.int .i64 bi) ∧ Below wX.heap.size wX w') := fun wX hb => by
    have := rFind_is N L x.d o l wX (HIN.out wX (HB.out.trans (hb.mono (Nat.le_of_lt HX0.out.1))))
    rwa [hbi] at this
  obtain ⟨L2, hL2⟩ : ∃ L2, L2 = lacksP L l x := ⟨_, rfl⟩
  have HLK : Hid (∀ wX, Below w1.heap.size w1 wX → Calls Try.prog 46 #[.agg #[.int .i64 N, .int .i64 L, .slice o.A o.n o.c], .agg #[.int .i64 x.a, .int .i64 x.r, .slice a.B.A a.B.n a.B.c, .slice a.P.A a.P.n a.P.c]] wX (NewI L2 wX)) := fun wX hb => by
    have hbw := HB.out.trans (hb.mono (Nat.le_of_lt HX0.out.1))
    rw [hL2]
    exact rLacks_is N L o l x a wX (HIN.out wX hbw) (HCI.out wX hbw) hf hL hxr
  have HNE : Hid (0 < L2.length) := by show _ < _; rw [hL2]; exact List.length_pos_iff.2 hl
  clear h hi hok hg hw1 hb1 hsz hx0 hx1 hx2 hai hbi hgs' hl hL hxr hL2 hf
  unfold dagV crtV
  have hgs := HX0.out.1
  have hz1 := HSZ.out
  obtain ⟨⟨d10, d11, d12⟩, c10, c11, c12, c13, c14, c15⟩ := HD.out w1 (Below.refl _ _)
  go_enter Try.func13, Try.ntmps13
  go_upto_region 1 with fail
  rw [HG.out, HW.out]
  go_wp2_with (first
    | (go_at_call 44; refine HOK.out.mono ?_; rintro e w2 ⟨rfl, hb12⟩; obtain ⟨⟨d20, d21, d22⟩, c20, c21, c22, c23, c24, c25⟩ := HD.out w2 hb12)
    | (go_at_call 45; refine (HAT.out _ hb12).mono ?_; rintro e w3 ⟨rfl, hb23⟩; have hb13 := hb12.trans (hb23.mono hb12.size); obtain ⟨⟨d30, d31, d32⟩, c30, c31, c32, c33, c34, c35⟩ := HD.out w3 hb13)
    | (go_at_call 41; refine (HFI.out _ hb13).mono ?_; rintro e w4 ⟨rfl, hb34⟩; have hb14 := hb13.trans (hb34.mono hb13.size); obtain ⟨⟨d40, d41, d42⟩, c40, c41, c42, c43, c44, c45⟩ := HD.out w4 hb14)
    | (go_at_call 46; refine (HLK.out _ hb14).mono ?_; rintro e w5 ⟨⟨A5, n5, c5⟩, rfl, ho5, hl5, hb45⟩; have hb15 := hb14.trans (hb45.mono hb14.size); obtain ⟨⟨d50, d51, d52⟩, c50, c51, c52, c53, c54, c55⟩ := HD.out w5 hb15; have l0 : (0 : Int) < (n5 : Int) := by have := HNE.out; have h5 : L2.length = n5 := hl5; omega)
    | (refine wpList_store_box rfl 24 _ _ rfl (g + 2) 0 (dagC N L o) (dagC 0 0 noAd) (dagC N L o) rfl rfl (HX2.out.below hb15 HX2.out.1) (show 0 + 3 ≤ 3 by decide) rfl size_dag rfl ?_))
  intro w9 by9 T9
  have t9 := T9 (fun k => k = g + 2) rfl
  obtain ⟨r0, r1, r2⟩ := dag_cells by9
  have hb9 : Below g w w9 := (HB.out.trans (hb15.mono (Nat.le_of_lt hgs))).trans (t9.below (fun k hk => by have e : k = g + 2 := hk; omega) (by have := hb15.size; omega))
  go_wp2_with fail
  refine bodyPost_ret (v := .tuple #[dagV N L o, .int .i64 7]) (by simp [results, Try.results13, go_sem, r0, r1, r2, dagV]) rfl ⟨rfl, ?_⟩
  rw [HG.out]
  exact hb9

end Go.Proofs.Ytejkeccoialogaa
/-
  The page's Add: the one that is taken (DRAFT: regions 17 to 19 are not written yet).
-/
namespace Go.Proofs.Ytejkeccoialogaa
open Go.RowKit

theorem cut_start {w : World} {o : Ad} {l : List CrtD} (h : GIn w o l) {c : Nat} (hc : c ≤ o.n) : GIn w ⟨o.A, c, o.c⟩ (l.take c) := by
  obtain ⟨ms, h1, h2⟩ := h
  have := h1.part (i := 0) (j := c) (Nat.zero_le _) hc
  refine ⟨(ms.drop 0).take (c - 0), ?_, ?_⟩
  · have e : o.cut 0 c 6 = ⟨o.A, c, o.c⟩ := by
      unfold Ad.cut
      simp
      intro _
      cases o.A with
      | none => rfl
      | some p => rfl
    rw [← e]; exact this
  · rw [← h2]; simp [List.map_take]
theorem certsY_wp {w : World} {o : Oper} {a : Act} {K : Act → World → Prop} {Q : Exit → Act → World → Prop} {s : Nat} {t : TypeId} {v : Value} (ho : o.op = .call { callee := .value (.func 23), args := #[.tmp s], argTypes := #[t] }) (hs : a.tmps[s]? = some v) {R : Ending → World → Prop} (hc : Calls Try.prog 23 #[v] w R)
    (h : ∀ e w', R e w' → ∃ u, e = .returned u ∧ K (a.put o.dst u) w') : o.wp Try.prog a w K Q := by
  have he : a.eval (.tmp s) = v := by simp [Act.eval, hs]
  unfold Oper.wp execOp
  simp only [ho]
  go_simp
  refine hc.mono fun e w' hr => ?_
  obtain ⟨u, rfl, hk⟩ := h e w' hr
  exact hk
theorem step_certsY {w : World} {ops : Array Oper} {o : Oper} {a : Act} {K : Act → World → Prop} {Q : Exit → Act → World → Prop} {E : Prop} {s : Nat} {t : TypeId} {v : Value} (hgd : o.guard = none)
    (ho : o.op = .call { callee := .value (.func 23), args := #[.tmp s], argTypes := #[t] }) (hs : a.tmps[s]? = some v) {R : Ending → World → Prop} (hc : Calls Try.prog 23 #[v] w R)
    (h : ∀ e w', R e w' → ∃ u, e = .returned u ∧ K (a.put o.dst u) w') : if Region.wanted o (yielded ops a.tmps) = true then Oper.wp Try.prog o a w K Q else E := by
  have hw : Region.wanted o (yielded ops a.tmps) = true := by simp [Region.wanted, hgd]
  rw [if_pos hw]
  exact certsY_wp ho hs hc h

set_option maxRecDepth 100000 in
set_option maxHeartbeats 8000000 in
theorem rAdd_ok (N L : Int) (o : Ad) (l : List CrtD) (x : CrtD) (a : CrtA) (w : World) (h : GIn w o l) (hi : CIn w x a) (hf : CrtFit x) (hok : x.ok N = true) (hr : ¬ (x.r ≤ L)) (ai bi : Int) (hai : idxF (neA x.r x.a) l = ai) (hbi : idxF (neD x.d) l = bi) (h1 : ¬ (0 ≤ ai)) (h2 : ¬ (0 ≤ bi)) (hl : lacksP L l x = []) (hL : 0 ≤ L ∧ L ≤ 1099511627776) (hxr : 0 ≤ x.r ∧ x.r ≤ 1099511627776) :
    Calls Try.prog 13 #[dagV N L o, crtV x a] w (AddOk N L (addC l x) w) := by
  obtain ⟨g, hg⟩ : ∃ g, g = w.heap.size := ⟨_, rfl⟩
  obtain ⟨w1, hw1⟩ : ∃ w1, w1 = (((w.alloc (.cells (dagC N L o).toArray 24)).alloc (.cells (crtC x a).toArray 37)).alloc (.cells (dagC 0 0 noAd).toArray 24)) := ⟨_, rfl⟩
  obtain ⟨hb1, hsz, hx0, hx1, hx2⟩ := boxes3 w _ _ _ _ _ _ hw1
  rw [← hg] at hb1 hsz hx0 hx1 hx2
  have HG : Hid (w.heap.size = g) := hg.symm
  have HW : Hid ((((w.alloc (.cells #[.int .i64 N, .int .i64 L, .slice o.A o.n o.c] 24)).alloc (.cells #[.int .i64 x.a, .int .i64 x.r, .slice a.B.A a.B.n a.B.c, .slice a.P.A a.P.n a.P.c, .int .i64 x.d, .slice a.S.A a.S.n a.S.c] 37)).alloc (.cells #[.int .i64 0, .int .i64 0, .slice none 0 0] 24)) = w1) := hw1.symm
  have HIN : Hid (∀ wX, Below g w wX → GIn wX o l) := fun wX hb => h.below (by rw [← hg]; exact hb)
  have HCI : Hid (∀ wX, Below g w wX → CIn wX x a) := fun wX hb => hi.below (by rw [← hg]; exact hb)
  have HB := Lib.hid hb1
  have HSZ := Lib.hid hsz
  have HX0 := Lib.hid hx0
  have HX1 := Lib.hid hx1
  have HX2 := Lib.hid hx2
  have HD : Hid (∀ wX, Below w1.heap.size w1 wX → (wX.cell? ⟨g, 0, none⟩ = some (.int .i64 N) ∧ wX.cell? ⟨g, 1, none⟩ = some (.int .i64 L) ∧ wX.cell? ⟨g, 2, none⟩ = some (.slice o.A o.n o.c)) ∧ (wX.cell? ⟨g + 1, 0, none⟩ = some (.int .i64 x.a) ∧ wX.cell? ⟨g + 1, 1, none⟩ = some (.int .i64 x.r) ∧ wX.cell? ⟨g + 1, 2, none⟩ = some (.slice a.B.A a.B.n a.B.c) ∧ wX.cell? ⟨g + 1, 3, none⟩ = some (.slice a.P.A a.P.n a.P.c) ∧ wX.cell? ⟨g + 1, 4, none⟩ = some (.int .i64 x.d) ∧ wX.cell? ⟨g + 1, 5, none⟩ = some (.slice a.S.A a.S.n a.S.c))) := fun wX hb => ⟨dag_cells (HX0.out.below hb HX0.out.1), crt_cells (HX1.out.below hb HX1.out.1)⟩
  have HOK : Hid (Calls Try.prog 44 #[.agg #[.int .i64 x.a, .int .i64 x.r, .slice a.B.A a.B.n a.B.c, .slice a.P.A a.P.n a.P.c, .int .i64 x.d, .slice a.S.A a.S.n a.S.c], .int .i64 N] w1 fun e w' => e = .returned (.bool true) ∧ Below w1.heap.size w1 w') := by
    have := rcertC_is N x a w1 (HCI.out _ hb1) hf
    rwa [hok] at this
  have hgs' := hx0.1
  have HAT : Hid (∀ wX, Below w1.heap.size w1 wX → Calls Try.prog 45 #[.agg #[.int .i64 N, .int .i64 L, .slice o.A o.n o.c], .int .i64 x.r, .int .i64 x.a] wX fun e w' => e = .returned (.int .i64 ai) ∧ Below wX.heap.size wX w') := fun wX hb => by
    have := rAt_is N L x.r x.a o l wX (HIN.out wX (HB.out.trans (hb.mono (Nat.le_of_lt HX0.out.1))))
    rwa [hai] at this
  have HFI : Hid (∀ wX, Below w1.heap.size w1 wX → Calls Try.prog 41 #[.agg #[.int .i64 N, .int .i64 L, .slice o.A o.n o.c], .int .i64 x.d] wX fun e w' => e = .returned (.int .i64 bi) ∧ Below wX.heap.size wX w') := fun wX hb => by
    have := rFind_is N L x.d o l wX (HIN.out wX (HB.out.trans (hb.mono (Nat.le_of_lt HX0.out.1))))
    rwa [hbi] at this
  obtain ⟨L2, hL2⟩ : ∃ L2, L2 = lacksP L l x := ⟨_, rfl⟩
  have HLK : Hid (∀ wX, Below w1.heap.size w1 wX → Calls Try.prog 46 #[.agg #[.int .i64 N, .int .i64 L, .slice o.A o.n o.c], .agg #[.int .i64 x.a, .int .i64 x.r, .slice a.B.A a.B.n a.B.c, .slice a.P.A a.P.n a.P.c]] wX (NewI L2 wX)) := fun wX hb => by
    have hbw := HB.out.trans (hb.mono (Nat.le_of_lt HX0.out.1))
    rw [hL2]
    exact rLacks_is N L o l x a wX (HIN.out wX hbw) (HCI.out wX hbw) hf hL hxr
  have HNE : Hid (L2.length = 0) := by show _ = _; rw [hL2, hl]; rfl
  have HLEN : Hid (l.length = o.n) := h.len
  have HCUT : Hid (∀ wX, Below w1.heap.size w1 wX → ∀ k, k ≤ o.n → Calls Try.prog 23 #[.slice o.A k o.c] wX (ClonesTo (l.take k) wX)) := fun wX hb k hk => copyCerts_is ⟨o.A, k, o.c⟩ (l.take k) wX (cut_start (HIN.out wX (HB.out.trans (hb.mono (Nat.le_of_lt HX0.out.1)))) hk)
  have hn1 := h.few
  have hcap := h.cap
  have HCUT2 : Hid (∀ wX, Below w1.heap.size w1 wX → ∀ k, k ≤ o.n → Calls Try.prog 23 #[.slice (if o.c = k then o.A else o.A.map (·.add (k * 6))) (o.n - k) (o.c - k)] wX (ClonesTo (l.drop k) wX)) := fun wX hb k hk => by
    obtain ⟨ms, hr, hl⟩ := HIN.out wX (HB.out.trans (hb.mono (Nat.le_of_lt HX0.out.1)))
    exact copyCerts_is (o.cut k o.n 6) (l.drop k) wX (cut_end hr hl hk)
  clear h hi hok hg hw1 hb1 hsz hx0 hx1 hx2 hai hbi hgs' hl hL hxr  hL2
  unfold dagV crtV
  have hgs := HX0.out.1
  have hz1 := HSZ.out
  obtain ⟨⟨d10, d11, d12⟩, c10, c11, c12, c13, c14, c15⟩ := HD.out w1 (Below.refl _ _)
  go_enter Try.func13, Try.ntmps13
  go_upto_region 1 with fail
  rw [HG.out, HW.out]
  go_upto_region 14 with (first
    | (go_at_call 44; refine HOK.out.mono ?_; rintro e w2 ⟨rfl, hb12⟩; obtain ⟨⟨d20, d21, d22⟩, c20, c21, c22, c23, c24, c25⟩ := HD.out w2 hb12)
    | (go_at_call 45; refine (HAT.out _ hb12).mono ?_; rintro e w3 ⟨rfl, hb23⟩; have hb13 := hb12.trans (hb23.mono hb12.size); obtain ⟨⟨d30, d31, d32⟩, c30, c31, c32, c33, c34, c35⟩ := HD.out w3 hb13)
    | (go_at_call 41; refine (HFI.out _ hb13).mono ?_; rintro e w4 ⟨rfl, hb34⟩; have hb14 := hb13.trans (hb34.mono hb13.size); obtain ⟨⟨d40, d41, d42⟩, c40, c41, c42, c43, c44, c45⟩ := HD.out w4 hb14)
    | (go_at_call 46; refine (HLK.out _ hb14).mono ?_; rintro e w5 ⟨⟨A5, n5, c5⟩, rfl, ho5, hl5, hb45⟩; have hb15 := hb14.trans (hb45.mono hb14.size); obtain ⟨⟨d50, d51, d52⟩, c50, c51, c52, c53, c54, c55⟩ := HD.out w5 hb15; have l0 : ¬ ((0 : Int) < (n5 : Int)) := by have := HNE.out; have h5 : L2.length = n5 := hl5; omega))
  have HB15 := Lib.hid hb15
  clear d10 d11 d12 c10 c11 c12 c13 c14 c15 d20 d21 d22 c20 c21 c22 c23 c24 c25 d30 d31 d32 c30 c31 c32 c33 c34 c35 d40 d41 d42 c40 c41 c42 c43 c44 c45 d50 d51 d52 c50 c51 c52 c53 c54 c55
  clear hb12 hb23 hb13 hb34 hb14 hb45 ho5 hl5 HOK HAT HFI HLK HNE hb15 l0
  generalize decide (0 < n5) = dq
  go_loopw [8] (fun i wr => ∃ k : Nat, i = .int .i64 k ∧ k ≤ o.n ∧ Hid (∀ (j : Nat) (y : CrtD), j < k → l[j]? = some y → isBef x.r x.a y = true) ∧ Hid (Below w1.heap.size w1 wr)) (fun i _ => o.n - (intOf i).toNat)
  case atStart => exact ⟨0, rfl, Nat.zero_le _, fun j y hj => absurd hj (Nat.not_lt_zero _), HB15.out⟩
  case round =>
    obtain ⟨k, rfl, hk, HBE, HBR⟩ := hrel
    have i0 : (0 : Int) ≤ (k : Int) := by omega
    have HCE : Hid (∀ z : Calm wr, Below w1.heap.size w1 z.val) := fun z => HBR.out.trans (z.ok.mono HBR.out.size)
    have p1 : ∀ z : Calm wr, z.val.cell? ⟨g + 1, 0, none⟩ = some (.int .i64 x.a) := fun z => (HD.out z.val (HCE.out z)).2.1
    have p2 : ∀ z : Calm wr, z.val.cell? ⟨g + 1, 1, none⟩ = some (.int .i64 x.r) := fun z => (HD.out z.val (HCE.out z)).2.2.1
    go_upto_region 14 with fail
    go_cut [84] from 57 to 84 (fun v wx => ∃ (b : Bool) (w6 : World), v = .bool b ∧ w6 = wx ∧ Hid (b = true → k < o.n ∧ ∀ (j : Nat) (u : CrtD), j < k + 1 → l[j]? = some u → isBef x.r x.a u = true) ∧ Hid (b = false → k = posC l x.r x.a) ∧ Hid (Below w1.heap.size w1 wx))
    case first =>
      by_cases hlt : k < o.n
      · have i1 : (k : Int) < (o.n : Int) := by omega
        obtain ⟨y, hy⟩ : ∃ y, l[k]? = some y := ⟨_, List.getElem?_eq_getElem (by rw [HLEN.out]; exact hlt)⟩
        obtain ⟨b, off, ay, hA, -, -, hce⟩ := (HIN.out w1 HB.out).get hy
        have p0 : ∀ z : Calm wr, z.val.cell? ⟨g, 2, none⟩ = some (.slice (some ⟨b, off, none⟩) o.n o.c) := fun z => by rw [← hA]; exact (HD.out z.val (HCE.out z)).1.2.2
        have p3 : ∀ z : Calm wr, z.val.cell? ⟨b, off + k * 6, none⟩ = some (.int .i64 y.a) := fun z => (hce z.val (HCE.out z)).1
        have p4 : ∀ z : Calm wr, z.val.cell? ⟨b, off + k * 6 + 1, none⟩ = some (.int .i64 y.r) := fun z => (hce z.val (HCE.out z)).c1
        have HY := Lib.hid hy
        clear hy hce hA
        obtain ⟨ah, hah⟩ : ∃ ah, aheadB y.r y.a x.r x.a = ah := ⟨_, rfl⟩
        have HBF : Hid (∀ z : Calm wr, Calls Try.prog 47 #[.int .i64 y.r, .int .i64 y.a, .int .i64 x.r, .int .i64 x.a] z.val fun e w' => e = .returned (.bool ah) ∧ z.val = w') := fun z => by
          have := Pl.rbefore_any y.r y.a x.r x.a z.val
          rwa [ahead_bef, hah] at this
        have HT : Hid (ah = true → k < o.n ∧ ∀ (j : Nat) (u : CrtD), j < k + 1 → l[j]? = some u → isBef x.r x.a u = true) := fun e => ⟨hlt, fun j u hj hu => by
          rcases Nat.lt_or_ge j k with h3 | h3
          · exact HBE.out j u h3 hu
          · obtain rfl : j = k := by omega
            rw [HY.out] at hu
            cases hu
            rw [e] at hah
            exact hah⟩
        have HF : Hid (ah = false → k = posC l x.r x.a) := fun e => cutF_unique (by rw [HLEN.out]; omega) HBE.out (fun u hu => by rw [HY.out] at hu; cases hu; rw [e] at hah; exact hah)
        clear hah
        refine wp_region_calm (by kernel_rfl) (by kernel_rfl) ?_
        repeat (go_big_quiet_step ((go_at_call 47; exact calm_same (HBF.out _))))
        refine wpQuiet_nil ?_
        rintro _ ⟨z, rfl⟩
        have HB6 : Hid (Below w1.heap.size w1 z.val) := HCE.out z
        clear p0 p1 p2 p3 p4 HBF HCE HY
        go_wp2_with fail
        go_meet
        exact ⟨ah, _, rfl, rfl, HT.out, HF.out, HB6.out⟩
      · have i1 : ¬ ((k : Int) < (o.n : Int)) := by omega
        have p0 : ∀ z : Calm wr, z.val.cell? ⟨g, 2, none⟩ = some (.slice o.A o.n o.c) := fun z => (HD.out z.val (HCE.out z)).1.2.2
        have HPOS : Hid (k = posC l x.r x.a) := cutF_unique (by rw [HLEN.out]; omega) HBE.out (fun u hu => by have := (List.getElem?_eq_some_iff.1 hu).1; have := HLEN.out; omega)
        refine wp_region_calm (by kernel_rfl) (by kernel_rfl) ?_
        repeat (go_big_quiet_step (fail))
        refine wpQuiet_nil ?_
        rintro _ ⟨z, rfl⟩
        have HB6 : Hid (Below w1.heap.size w1 z.val) := HCE.out z
        clear p0 p1 p2 HCE
        go_wp2_with fail
        go_meet
        exact ⟨false, _, rfl, rfl, (fun e => by cases e), fun _ => HPOS.out, HB6.out⟩
    case rest =>
      obtain ⟨b, w6, rfl, rfl, HT, HF, HB6⟩ := hcut
      clear p1 p2 HCE
      cases b with
      | true =>
        have HBK := Lib.hid (HT.out rfl).2
        have hlt := (HT.out rfl).1
        clear HT HF
        go_wp2_with fail
        go_roundw
        case rel => exact ⟨k + 1, by go_num, hlt, HBK.out, HB6.out⟩
        case measure => simp [intOf]; omega
      | false =>
        have HPOS : Hid (k = posC l x.r x.a) := HF.out rfl
        have hb16 := HB6.out
        clear HT HF
        obtain ⟨⟨d0, d1, d2⟩, c0, c1, c2, c3, c4, c5⟩ := HD.out w6 hb16
        go_upto_region 17 with fail
        obtain ⟨G, hG⟩ : ∃ G, G = w6.heap.size := ⟨_, rfl⟩
        obtain ⟨w7, hw7⟩ : ∃ w7, w7 = w6.alloc (.cells (dagC N L noAd).toArray 24) := ⟨_, rfl⟩
        obtain ⟨hb67, -, hx7⟩ := boxes1 w6 _ _ hw7
        rw [← hG] at hx7
        have HGE : Hid (w6.heap.size = G) := hG.symm
        have HW7 : Hid (w6.alloc (.cells #[.int .i64 N, .int .i64 L, .slice none 0 0] 24) = w7) := hw7.symm
        rw [HGE.out, HW7.out]
        have hb17 : Below w1.heap.size w1 w7 := hb16.trans (hb67.mono hb16.size)
        have hG1 : w1.heap.size ≤ G := by rw [hG]; exact hb16.size
        have HX7 := Lib.hid hx7
        clear d0 d1 d2 c0 c1 c2 c3 c4 c5 hG hw7 hb67 hx7
        obtain ⟨⟨d0, d1, d2⟩, c0, c1, c2, c3, c4, c5⟩ := HD.out w7 hb17
        obtain ⟨x0, x1, x2⟩ := dag_cells HX7.out
        have HCS : Hid (∀ wX, Below w1.heap.size w1 wX → Calls Try.prog 23 #[.slice o.A k o.c] wX (ClonesTo (l.take k) wX)) := fun wX hb => HCUT.out wX hb k hk
        have HCC : Hid (∀ wX, Below w1.heap.size w1 wX → Calls Try.prog 14 #[.agg #[.int .i64 x.a, .int .i64 x.r, .slice a.B.A a.B.n a.B.c, .slice a.P.A a.P.n a.P.c, .int .i64 x.d, .slice a.S.A a.S.n a.S.c]] wX (CopyNew x wX)) := fun wX hb => copyCN_is x a wX (HCI.out wX (HB.out.trans (hb.mono (Nat.le_of_lt hgs)))) hf
        have xz : w7.frozen? ⟨G, 2, none⟩ = false := (HX7.out.2 2 _ rfl).2
        have hkn : k ≤ 1000000 := by omega
        have HTL : Hid ((l.take k).length = k) := by show _ = _; rw [List.length_take, HLEN.out]; omega
        clear i0
        have i0 : (0 : Int) ≤ (k : Int) := by omega
        have i8 : (k : Int) ≤ (o.c : Int) := by omega
        have i9 : k ≤ o.c := by omega
        go_cut [] from 92 to 101 (fun wx => ∃ (w11 : World) (o11 : Ad) (ms11 : List (CrtD × CrtA)), w11 = wx ∧ Hid (OwnY w7.heap.size wx o11 ms11) ∧ Hid (ms11.map Prod.fst = l.take k ++ [x]) ∧ Hid (Box wx G (dagC N L o11)) ∧ Hid (Below w1.heap.size w1 wx) ∧ Hid (w7.heap.size ≤ wx.heap.size) ∧ Hid (o11.n ≤ k + 1))
        case first =>
         go_region_law (first
          | (refine step_certsY (by rfl) (by rfl) (by rfl) (HCS.out _ (hb17.trans ((Below.refl _ _).drew.mono hb17.size))) ?_
             rintro e w8 ⟨⟨A8, n8, q8⟩, ms8, rfl, ho8, hm8, hb8'⟩
             have hb8 : Below w7.heap.size w7 w8 := ((Below.refl _ _).drew).trans hb8'
             have hb18 : Below w1.heap.size w1 w8 := hb17.trans (hb8.mono hb17.size)
             refine ⟨_, rfl, ?_⟩
             obtain ⟨-, m0, m1, m2, m3, m4, m5⟩ := HD.out w8 hb18
             have HN8 : Hid (n8 ≤ k) := by
               have h1 := ho8.len
               have h2 : ms8.length = k := by rw [← HTL.out, ← hm8, List.length_map]
               have h3 : ms8.length = n8 := h1
               show n8 ≤ k
               omega
             have hn8 : n8 ≤ 1000000 := Nat.le_trans HN8.out hkn)
          | (refine step_copyY (by rfl) (by rfl) (by rfl) (HCC.out w8 hb18) ?_
             rintro e w9 ⟨a9, rfl, hn9, hb9⟩
             refine ⟨_, rfl, ?_⟩
             dsimp only [crtV])
          | (refine step_app_elemY _ (by rfl) _ _ (by rfl) w7.heap.size _ n8 (cellsY ms8) (by rfl) (ownS_below (ownS_below ho8.row hb9) ((Below.refl _ _).alloc (Nat.le_refl _) _)) w9.heap.size x a9 (by rfl) (fun i u hu => ((box_new w9 (crtC x a9) 37).2 i u hu).1) hn8 (by have := hb8.size; have := hb9.size; simp; omega) ?_
             intro g' c' w10 ho10 hg10
             have ht10 : Touch (fun j => (Value.slice A8 n8 q8).ownBlock = some j) w7 w10 := ((Touch.of (hb8.trans (hb9.mono hb8.size))).alloc _).on (Touch.grown hg10 fun j hj => hj)
             have z10 : w10.frozen? ⟨G, 2, none⟩ = false := (ht10.frozen (b := G) HX7.out.1 (fun hf => by have := (own_lt ho8.row hf).2; have := HX7.out.1; simp at *; omega)).trans xz
             have x10 : w10.cell? ⟨G, 2, none⟩ = some (.slice none 0 0) := (ht10.cell (b := G) HX7.out.1 (fun hf => by have := (own_lt ho8.row hf).2; have := HX7.out.1; simp at *; omega)).trans x2))
         all_goals
           obtain ⟨w11, hw11⟩ : ∃ w11, w11 = w10.setCell ⟨G, 2, none⟩ (.slice (some ⟨g', 0, none⟩) (n8 + 1) c') := ⟨_, rfl⟩
           rw [← hw11]
           have ho8' : OwnY w7.heap.size w8 ⟨A8, n8, q8⟩ ms8 := ho8
           have hpush := ho8'.push (x := x) (a := a9) (o' := ⟨some ⟨g', 0, none⟩, n8 + 1, c'⟩) hb9 hn9 hb8.size hg10 ho10 rfl
           have t11 : Touch (fun j => j = G) w10 w11 := by rw [hw11]; exact Touch.set (F := fun j => j = G) (Touch.refl _ _) (.inl rfl) _
           have HFA : Hid (∀ j, j < w7.heap.size → ¬ (Value.slice A8 n8 q8).ownBlock = some j) := fun j hj hf => by have := (own_lt ho8'.row hf).2; omega
           have HPU : Hid (OwnY w7.heap.size w11 ⟨some ⟨g', 0, none⟩, n8 + 1, c'⟩ (ms8 ++ [(x, a9)])) := hpush.touch t11 (fun j hj => by have e : j = G := hj; have := HX7.out.1; omega)
           have HX11 : Hid (Box w11 G (dagC N L ⟨some ⟨g', 0, none⟩, n8 + 1, c'⟩)) := by show Box _ _ _; rw [hw11]; exact (HX7.out.touch ht10 (HFA.out _ HX7.out.1)).set (j := 2) (show 2 < 3 by decide)
           have hb710 : Below w7.heap.size w7 w10 := ht10.below (fun j hj => by have := (own_lt ho8'.row hj).2; omega) (Nat.le_refl _)
           have hb111 : Below w1.heap.size w1 w11 := (hb17.trans (hb710.mono hb17.size)).trans (t11.below (fun j hj => by have e : j = G := hj; omega) (by have := hb17.size; have := hb710.size; omega))
           have HM11 : Hid ((ms8 ++ [(x, a9)]).map Prod.fst = l.take k ++ [x]) := by show _ = _; rw [List.map_append, hm8]; rfl
           have hw711 : w7.heap.size ≤ w11.heap.size := by have := HX11.out.1; have := own_lt HPU.out.row (show (Value.slice (some ⟨g', 0, none⟩) (n8 + 1) c').ownBlock = some g' from rfl); omega
           go_wp2_with fail
           go_meet
           exact ⟨_, ⟨some ⟨g', 0, none⟩, n8 + 1, c'⟩, _, rfl, HPU.out, HM11.out, HX11.out, hb111, hw711, by show n8 + 1 ≤ k + 1; have := HN8.out; omega⟩
        case rest =>
         obtain ⟨w11, ⟨A11, n11, c11⟩, ms11, rfl, HPU, HM11, HX11, HB111, HW711, HN11⟩ := hcut
         have hb111 := HB111.out
         have hn11 : n11 ≤ k + 1 := HN11.out
         clear x0 x1 x2 d0 d1 d2 c0 c1 c2 c3 c4 c5 xz HCS HCC
         obtain ⟨⟨d0, d1, d2⟩, c0, c1, c2, c3, c4, c5⟩ := HD.out _ hb111
         obtain ⟨x0, x1, x2⟩ := dag_cells HX11.out
         go_upto_region 18 with fail
         have HGg : Hid (∀ j, (Value.slice A11 n11 c11).ownBlock = some j → w7.heap.size ≤ j ∧ j < w11.heap.size) := fun j hj => by have := own_lt HPU.out.row hj; omega
         have hGl : G < w7.heap.size := HX7.out.1
         have HCS2 := Lib.hid (fun wX hb => HCUT2.out wX hb k hk)
         have xz : w11.frozen? ⟨G, 2, none⟩ = false := (HX11.out.2 2 _ rfl).2
         have hw711 := HW711.out
         have HDL : Hid ((l.drop k).length = o.n - k) := by show _ = _; rw [List.length_drop, HLEN.out]
         have i10 : (k : Int) ≤ (o.n : Int) := by omega
         have i11 : (o.n : Int) ≤ (o.c : Int) := by omega
         have i12 : o.n ≤ o.c := by omega
         go_cut [] from 102 to 110 (fun wy => ∃ (w14 : World) (o13 : Ad) (ms13 : List (CrtD × CrtA)), w14 = wy ∧ Hid (OwnY w7.heap.size wy o13 ms13) ∧ Hid (ms13.map Prod.fst = addC l x) ∧ Hid (Box wy G (dagC N L o13)) ∧ Hid (Below w1.heap.size w1 wy) ∧ Hid (w7.heap.size ≤ wy.heap.size))
         case first =>
          by_cases hcf : o.c = k
          all_goals first
           | (subst hcf; rw [if_pos rfl, Nat.sub_self, Nat.sub_eq_zero_of_le i12] at HCS2)
           | rw [if_neg hcf] at HCS2
          all_goals
           go_region_law (first
            | (refine step_certsY (by rfl) (by rfl) (by rfl) (HCS2.out _ (hb111.trans ((Below.refl _ _).drew.mono hb111.size))) ?_
               rintro e w12 ⟨⟨A12, n12, q12⟩, ms12, rfl, ho12, hm12, hb12'⟩
               have hb12 : Below w11.heap.size w11 w12 := ((Below.refl _ _).drew).trans hb12'
               have ho12' : OwnY w11.heap.size w12 ⟨A12, n12, q12⟩ ms12 := ho12
               have hn12 : ms12.length = n12 := ho12'.len
               have hl12 := HDL.out
               rw [← hm12, List.length_map] at hl12
               refine ⟨_, rfl, ?_⟩
               have v12 : w12.cell? ⟨G, 2, none⟩ = some (.slice A11 n11 c11) := (hb12.cell (p := ⟨G, 2, none⟩) HX11.out.1).trans x2)
            | (refine step_app_rowsY _ (by rfl) _ _ (by rfl) w7.heap.size w11.heap.size _ n11 (cellsY ms11) (by rfl) (ownS_below HPU.out.row hb12) A12 n12 q12 ms12 (by rfl) ho12'.row hn12 (by omega) (by have := hb12.size; omega) ?_
               intro A13 c13 w13 ho13 hg13
               have ht13 : Touch (fun j => (Value.slice A11 n11 c11).ownBlock = some j) w11 w13 := (Touch.of hb12).on (Touch.grown hg13 fun j hj => hj)
               have z13 : w13.frozen? ⟨G, 2, none⟩ = false := (ht13.frozen (b := G) HX11.out.1 (fun hf => by have := (HGg.out _ hf).1; omega)).trans xz
               have x13 : w13.cell? ⟨G, 2, none⟩ = some (.slice A11 n11 c11) := (ht13.cell (b := G) HX11.out.1 (fun hf => by have := (HGg.out _ hf).1; omega)).trans x2))
          all_goals
           obtain ⟨w14, hw14⟩ : ∃ w14, w14 = w13.setCell ⟨G, 2, none⟩ (.slice A13 (n11 + n12) c13) := ⟨_, rfl⟩
           rw [← hw14]
           have hjn := HPU.out.join hb12 ho12' (Nat.le_trans hw711 (Nat.le_refl _)) hg13 (o' := ⟨A13, n11 + n12, c13⟩) ho13 rfl
           have t14 : Touch (fun j => j = G) w13 w14 := by rw [hw14]; exact Touch.set (F := fun j => j = G) (Touch.refl _ _) (.inl rfl) _
           have hou : OwnY w7.heap.size w14 ⟨A13, n11 + n12, c13⟩ (ms11 ++ ms12) := hjn.touch t14 (fun j hj => by have e : j = G := hj; omega)
           have hx14 : Box w14 G (dagC N L ⟨A13, n11 + n12, c13⟩) := by rw [hw14]; exact (HX11.out.touch ht13 (fun hf => by have := (HGg.out _ hf).1; omega)).set (j := 2) (show 2 < 3 by decide)
           have hb713 : Below w7.heap.size w11 w13 := ht13.below (fun j hj => (HGg.out j hj).1) hw711
           have hb114 : Below w1.heap.size w1 w14 := (hb111.trans (hb713.mono hb17.size)).trans (t14.below (fun j hj => by have e : j = G := hj; omega) (by have := hb111.size; have := hb713.size; omega))
           have hm14 : (ms11 ++ ms12).map Prod.fst = addC l x := by
             rw [List.map_append, HM11.out, hm12]
             unfold addC
             rw [← HPOS.out, List.append_assoc]
             rfl
           have hs14 : w7.heap.size ≤ w14.heap.size := by have := hb713.size; have := t14.size; omega
           go_wp2_with fail
           go_meet
           first
            | exact ⟨w14, ⟨A13, n11 + n12, c13⟩, _, rfl, hou, hm14, hx14, hb114, hs14⟩
            | (subst hw14; exact ⟨_, ⟨A13, n11 + n12, c13⟩, _, rfl, hou, hm14, hx14, hb114, hs14⟩)
         case rest =>
          obtain ⟨w14, ⟨A14, n14, c14⟩, ms14, rfl, HOU, HM14, HX14, HB114, HS14⟩ := hcut
          have hx14 := HX14.out
          have hz14 := HX2.out.below HB114.out HX2.out.1
          clear x0 x1 x2 d0 d1 d2 c0 c1 c2 c3 c4 c5 xz
          go_wp2_with (first
            | (refine wpList_load_box rfl 24 _ rfl G rfl (dagC N L ⟨A14, n14, c14⟩) hx14 _ Try.underlying24 rfl size_dag ?_)
            | (refine wpList_store_box rfl 24 _ _ rfl (g + 2) 0 (dagC N L ⟨A14, n14, c14⟩) (dagC 0 0 noAd) (dagC N L ⟨A14, n14, c14⟩) rfl rfl hz14 (show 0 + 3 ≤ 3 by decide) rfl size_dag rfl ?_))
          intro w9 by9 T9
          have t9 := T9 (fun k => k = g + 2) rfl
          obtain ⟨r0, r1, r2⟩ := dag_cells by9
          have hz1 := HSZ.out
          have h17s := hb17.size
          have ho9 := HOU.out.touch t9 (fun j hj => by have e : j = g + 2 := hj; omega)
          have hb9 : Below g w w9 := (HB.out.trans (HB114.out.mono (Nat.le_of_lt hgs))).trans (t9.below (fun j hj => by have e : j = g + 2 := hj; omega) (by have := HB114.out.size; omega))
          go_wp2_with fail
          refine bodyPost_ret (v := .tuple #[dagV N L ⟨A14, n14, c14⟩, .int .i64 0]) (by simp [results, Try.results13, go_sem, r0, r1, r2, dagV]) rfl ⟨⟨A14, n14, c14⟩, ms14, rfl, ho9.more (by rw [HG.out]; omega), HM14.out, ?_⟩
          rw [HG.out]
          exact hb9

end Go.Proofs.Ytejkeccoialogaa
