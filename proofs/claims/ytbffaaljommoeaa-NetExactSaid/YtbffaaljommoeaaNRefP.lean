/-
  The page's own net: Put.
-/
import Derived.Test.YtbffaaljommoeaaNRefC
import Derived.Test.YtbffaaljommoeaaNTake
namespace Go.Proofs.Ytbffaaljommoeaa
open Go.RowKit

def zway : Value := .agg #[.int .i64 0, .int .i64 0, .slice none 0 0]
theorem info_way : (Try.prog.info? 63).map (fun i => (i.zero, i.size, i.bytes)) = some (some zway, 3, 40) := by kernel_rfl

theorem copyN_wp {w : World} {o : Oper} {a : Act} {K : Act → World → Prop} {Q : Exit → Act → World → Prop} {s : Nat} {t : TypeId} {v : Value} (ho : o.op = .call { callee := .value (.func 19), args := #[.tmp s], argTypes := #[t] }) (hs : a.tmps[s]? = some v) {R : Ending → World → Prop} (hc : Calls Try.prog 19 #[v] w R)
    (h : ∀ e w', R e w' → ∃ u, e = .returned u ∧ K (a.put o.dst u) w') : o.wp Try.prog a w K Q := by
  have he : a.eval (.tmp s) = v := by simp [Act.eval, hs]
  unfold Oper.wp execOp
  simp only [ho]
  go_simp
  refine hc.mono fun e w' hr => ?_
  obtain ⟨u, rfl, hk⟩ := h e w' hr
  exact hk
theorem step_copyN {w : World} {ops : Array Oper} {o : Oper} {a : Act} {K : Act → World → Prop} {Q : Exit → Act → World → Prop} {E : Prop} {s : Nat} {t : TypeId} {v : Value} (hgd : o.guard = none)
    (ho : o.op = .call { callee := .value (.func 19), args := #[.tmp s], argTypes := #[t] }) (hs : a.tmps[s]? = some v) {R : Ending → World → Prop} (hc : Calls Try.prog 19 #[v] w R)
    (h : ∀ e w', R e w' → ∃ u, e = .returned u ∧ K (a.put o.dst u) w') : if Region.wanted o (yielded ops a.tmps) = true then Oper.wp Try.prog o a w K Q else E := by
  have hw : Region.wanted o (yielded ops a.tmps) = true := by simp [Region.wanted, hgd]
  rw [if_pos hw]
  exact copyN_wp ho hs hc h

section
variable {w w5 w7 : World} {g gr i n cap k cW nb c5 g' c' : Nat} {F : Nat → Prop} {Ws : List WayD} {W : WayD} {AW A5 : Option Addr} {zs : List Int} {o : Obj}
/-- a message more in a way's row -/
theorem RefN.putEnd (h : RefN w g F (.slice (some ⟨gr, 0, none⟩) n cap) Ws) (hn : Ws.length = n) (hW : Ws[i]? = some W) (hWv : W.v = .slice AW k cW) (hk : W.ps.length = k) (hb : Below w.heap.size w w5)
    (ho5 : w5.ownsRow w.heap.size 5 1 (.slice A5 nb c5) nb (u8s zs)) (hz : zs.length = nb) (ho7 : w7.ownsRow 0 30 1 (.slice (some ⟨g', 0, none⟩) (k + 1) c') (k + 1) (W.ps.map Prod.fst ++ [.slice A5 nb c5]))
    (hg7 : (w5.alloc o).grownBy w7 (Value.slice AW k cW).ownBlock) (hl7 : (Value.slice AW k cW).ownBlock = some g' ∨ g' = (w5.alloc o).heap.size) (hy : Byts zs) (hnb : nb ≤ 1048576) (hf : k ≠ 1024) :
    (RefN (w7.setCell ⟨gr, i * 3 + 2, none⟩ (.slice (some ⟨g', 0, none⟩) (k + 1) c')) g (fun b => F b ∨ (w.heap.size ≤ b ∧ b < w7.heap.size)) (.slice (some ⟨gr, 0, none⟩) n cap) (Ws.set i { W with v := .slice (some ⟨g', 0, none⟩) (k + 1) c', ps := W.ps ++ [(.slice A5 nb c5, zs)] }) ∧ Touch F w (w7.setCell ⟨gr, i * 3 + 2, none⟩ (.slice (some ⟨g', 0, none⟩) (k + 1) c'))) ∧
    w7.cell? ⟨g, 0, none⟩ = some (.slice (some ⟨gr, 0, none⟩) n cap) ∧ w7.cell? ⟨gr, i * 3 + 2, none⟩ = some (.slice AW k cW) ∧ w7.frozen? ⟨gr, i * 3 + 2, none⟩ = false := by
  have hWm := List.mem_of_getElem? hW
  have hz5 := hb.size
  have hway := h.way W hWm
  rw [hWv] at hway
  have hbA : Below w.heap.size w (w5.alloc o) := hb.alloc hz5 o
  have ht : Touch (fun b => W.v.ownBlock = some b) w w7 := (Touch.of hbA : Touch (fun b => W.v.ownBlock = some b) w (w5.alloc o)).trans (Touch.grown (F := fun b => W.v.ownBlock = some b) hg7 fun b hb => by rw [hWv]; exact hb) fun _ hk => .inl hk
  obtain ⟨gr', cap', hv', _, _, _, hgrl, _, _, e2, fz⟩ := h.at_ hn hW
  cases hv'
  have hgl := h.lt _ h.here
  have hgW : ¬ W.v.ownBlock = some g := fun e => by
    obtain ⟨cur, hc⟩ := own_type (h.way W hWm) e
    exact ne_type h.blk hc (by decide) rfl
  have hgrW : ¬ W.v.ownBlock = some gr := fun e => by
    obtain ⟨cur, hc⟩ := own_type (h.way W hWm) e
    obtain ⟨cur', hc'⟩ := own_type h.row (b := gr) rfl
    exact ne_type hc' hc (by decide) rfl
  have hrowA : (w5.alloc o).ownsRow 0 30 1 (.slice AW k cW) W.ps.length (W.ps.map Prod.fst) := own_below hway hbA
  have hu8 : ∀ {v : Value} {m : Nat} {ys : List Int} {B : Nat}, (w5.alloc o).ownsRow B 5 1 v m (u8s ys) → w7.ownsRow B 5 1 v m (u8s ys) := fun {v m ys B} hq => own_kept hq fun b hb' hlt => hg7.block b hlt fun e => by
    obtain ⟨cur, hc⟩ := own_type hq hb'
    obtain ⟨cur', hc'⟩ := own_type hrowA e.symm
    exact ne_type hc hc' (by decide) rfl
  have ho5A : (w5.alloc o).ownsRow w.heap.size 5 1 (.slice A5 nb c5) nb (u8s zs) := own_below ho5 ((Below.refl _ _).alloc (Nat.le_refl _) _)
  refine ⟨h.wayTo hW rfl hn ht ?_ (fun b hb' => ?_) (fun p hp => ?_) (fun p hp b hb' => ?_) ?_, (ht.cell (o := 0) hgl hgW).trans h.c0, ?_, (ht.frozen (o := i * 3 + 2) hgrl hgrW).trans (fz _)⟩
  · rw [List.map_append]
    exact own_cast ho7 (by rw [List.length_append, hk]; rfl)
  · have e : g' = b := Option.some.inj hb'
    subst e
    rcases hl7 with e | e
    · exact .inl (by rw [hWv]; exact e)
    · right; rw [e]; simp; omega
  · rcases List.mem_append.1 hp with hp | hp
    · exact hu8 (own_below (h.inn W hWm p hp) hbA)
    · rw [List.mem_singleton] at hp
      subst hp
      exact own_cast (own_more (hu8 ho5A) (Nat.zero_le _)) hz.symm
  · rcases List.mem_append.1 hp with hp | hp
    · exact .inl (h.innF W hWm p hp b hb')
    · rw [List.mem_singleton] at hp
      subst hp
      exact .inr (own_lt ho5 hb').2
  · rw [List.map_append]
    exact (h.ok W hWm).snoc (by show W.msgs.length ≠ _; rw [WayD.msgs, List.length_map, hk]; exact hf) hy (by rw [hz]; exact hnb)
  · have := (ht.cell (o := i * 3 + 2) hgrl hgrW).trans e2
    rw [hWv] at this
    exact this
end

set_option maxRecDepth 100000 in
set_option maxHeartbeats 8000000 in
theorem rput_is {F : Nat → Prop} {L : PN} {c : Nat} (g : Nat) (f t : Int) (A : Option Addr) (nb cb : Nat) (zs : List Int) (w : World) (h : IsRefN w g F L c) (hc : c ≤ 1000) (hz : zs.length = nb) (hr : Rd w A (u8s zs)) (hy : Byts zs) (hnb : nb ≤ 1048576) (hcb : nb ≤ cb)
    (hA : L.at_ f t ≠ [] ∨ ∀ a, A = some a → 0 < nb → ¬ F a.block) :
    Calls Try.prog 21 #[.pointer (some ⟨g, 0, none⟩), .int .i64 f, .int .i64 t, .slice A nb cb] w fun e w' => e = .returned (.int .i64 (nPut L f t zs).2) ∧ RefNTo g F (nPut L f t zs).1 (c + 1) w w' := by
  have HIS := Lib.hid h
  cases hbo : bothN f t with
  | false =>
    rw [nPut, if_pos hbo]
    have HS : Hid (RefNTo g F L (c + 1) w w) := refNTo_same (h.more (Nat.le_succ c)) (Below.refl _ _)
    cases h1 : nodeN f with
    | false =>
      have H1 := Lib.hid h1
      clear h hz hr hy hA hbo h1
      go_enter Try.func21, Try.ntmps21
      go_wp2_with fail
      refine (rnode_is f _).mono ?_
      rintro e w' ⟨rfl, rfl⟩
      rw [H1.out]
      go_wp2_with fail
      go_ret
      exact ⟨rfl, HS.out⟩
    | true =>
      have H1 := Lib.hid h1
      have H2 : Hid (nodeN t = false) := by
        show nodeN t = false
        rw [bothN, h1, Bool.true_and] at hbo
        exact hbo
      clear h hz hr hy hA hbo h1
      go_enter Try.func21, Try.ntmps21
      go_wp2_with fail
      refine (rnode_is f _).mono ?_
      rintro e w' ⟨rfl, rfl⟩
      rw [H1.out]
      go_wp2_with fail
      refine (rnode_is t _).mono ?_
      rintro e w' ⟨rfl, rfl⟩
      rw [H2.out]
      go_wp2_with fail
      go_ret
      exact ⟨rfl, HS.out⟩
  | true =>
    obtain ⟨H1, H2⟩ : Hid (nodeN f = true) ∧ Hid (nodeN t = true) := by
      have := hbo
      rw [bothN, Bool.and_eq_true] at this
      exact this
    obtain ⟨vL, Ws, hR, hl, hk⟩ := h
    have HW := Lib.hid (rway_is f t w hR (by omega))
    have HLK := Lib.hid hk
    have HRD := Lib.hid hr
    have HRR := Lib.hid hR
    have HBO := Lib.hid hbo
    have HAA := Lib.hid hA
    have HZ := Lib.hid hz
    have HY := Lib.hid hy
    obtain ⟨n, hn⟩ : ∃ n, Ws.length = n := ⟨_, rfl⟩
    have HNN := Lib.hid hn
    clear hz hr hy hA hbo hk hR
    go_enter Try.func21, Try.ntmps21
    go_wp2_with fail
    refine (rnode_is f _).mono ?_
    rintro e w' ⟨rfl, rfl⟩
    rw [H1.out]
    go_wp2_with fail
    refine (rnode_is t _).mono ?_
    rintro e w' ⟨rfl, rfl⟩
    rw [H2.out]
    go_wp2_with fail
    refine HW.out.mono ?_
    rintro e w' ⟨rfl, rfl⟩
    obtain ⟨V0, hV0⟩ : ∃ V0, wayV Ws f t = V0 := ⟨_, rfl⟩
    rw [hV0]
    go_upto_if 23 with fail
    go_cut [9] from 23 to 41 (fun v9 wx => ∃ (p m : Nat) (vL' : Value) (Ws' : List WayD) (F' : Nat → Prop), v9 = .int .i64 p ∧ p < m ∧ m ≤ c + 1 ∧ Hid (posW Ws' f t = p) ∧ Hid (Ws'.length = m) ∧ Hid (RefN wx g F' vL' Ws') ∧ Hid (∀ f' t', lookW Ws' f' t' = L.at_ f' t') ∧ Hid (Touch F w wx) ∧ Hid (∀ k, F' k → F k ∨ w.heap.size ≤ k) ∧ Hid (Rd wx A (u8s zs)))
    case first =>
      by_cases hp : posW Ws f t < Ws.length
      · rw [way_yes hp] at hV0
        obtain ⟨p, hpp⟩ : ∃ p, posW Ws f t = p := ⟨_, rfl⟩
        have HPP := Lib.hid hpp
        have HPL : Hid (p < n ∧ n ≤ c + 1) := ⟨by rw [← hpp, ← hn]; exact hp, by omega⟩
        rw [hpp] at hV0
        subst hV0
        have i3 : ¬ ((p : Int) < 0) := by omega
        clear hp hpp hn hl
        go_wp2_with fail
        go_meet
        exact ⟨p, n, vL, Ws, F, rfl, HPL.out.1, HPL.out.2, HPP.out, HNN.out, HRR.out, HLK.out, Touch.refl _ _, fun k hk => .inl hk, HRD.out⟩
      · rw [way_no hp] at hV0
        subst hV0
        have hpe : posW Ws f t = n := by have := pos_le Ws f t; omega
        have hAn : ∀ a, A = some a → 0 < nb → ¬ F a.block := by
          rcases HAA.out with h' | h'
          · exfalso
            apply h'
            rw [← HLK.out]
            exact look_no hp
          · exact h'
        obtain ⟨AL, cL, rfl, hnc, hcm, _⟩ := HRR.out.slice hn
        have c0 := HRR.out.c0
        have f0 := HRR.out.f0
        have hgl := HRR.out.lt _ HRR.out.here
        have hrow := HRR.out.row
        rw [hn] at hrow
        obtain ⟨w1, hw1⟩ : ∃ w1, w1 = w.alloc (.cells #[.int .i64 f, .int .i64 t, .slice none 0 0] 63) := ⟨_, rfl⟩
        have hb1 : Below w.heap.size w w1 := by rw [hw1]; exact (Below.refl _ _).alloc (Nat.le_refl _) _
        have hgx : w1.heap[w.heap.size]? = some (.cells ([.int .i64 f, .int .i64 t, .slice none 0 0] : List Value).toArray 63 (0, 0)) := by rw [hw1]; exact heap_alloc_new w _
        obtain ⟨A7, c7, w7, hrun, ho7, hg7, hl7⟩ := run_app_elem (P := Try.prog) w1 27 27 0 63 zway 3 40 Try.underlying27 info_way rfl (by decide) (by decide) _ n _ (ownS_below hrow hb1) w.heap.size [.int .i64 f, .int .i64 t, .slice none 0 0] rfl hgx (by intro u hu; simp at hu; rcases hu with rfl | rfl | rfl <;> rfl) (by omega) (Nat.zero_le _)
        have ht7 : Touch (fun b => (Value.slice AL n cL).ownBlock = some b) w w7 := (Touch.of hb1 : Touch (fun b => (Value.slice AL n cL).ownBlock = some b) w w1).trans (Touch.grown (F := fun b => (Value.slice AL n cL).ownBlock = some b) hg7 fun b hb => hb) fun _ hk => .inl hk
        have hgv : ¬ (Value.slice AL n cL).ownBlock = some g := fun e => by
          obtain ⟨cur, hc'⟩ := own_type hrow e
          exact ne_type HRR.out.blk hc' (by decide) rfl
        have hz1 := hb1.size
        have k7 : w7.cell? ⟨g, 0, none⟩ = some (.slice AL n cL) := (ht7.cell (o := 0) hgl hgv).trans c0
        have z7 : w7.frozen? ⟨g, 0, none⟩ = false := (ht7.frozen (o := 0) hgl hgv).trans f0
        obtain ⟨hpR, hpT⟩ := HRR.out.push ht7 (v2 := .slice A7 (n + 1) c7) (f := f) (t := t) (by rw [hn]; exact ho7) (fun b hb => by
          rcases hl7 with e | e
          · exact .inl (by rw [← e]; exact hb)
          · rw [e] at hb
            cases hb
            exact .inr hz1) HBO.out
        have hrd7 : Rd (w7.setCell ⟨g, 0, none⟩ (.slice A7 (n + 1) c7)) A (u8s zs) := by
          rcases Nat.eq_zero_or_pos nb with h0 | h0
          · rw [List.eq_nil_of_length_eq_zero (HZ.out.trans h0)]
            exact Rd.nil _ _
          · exact HRD.out.kept hpT.size fun a ha hlt => hpT.block _ hlt (hAn a ha h0)
        have HRUN := Lib.hid hrun
        have HPR := Lib.hid hpR
        have HPT := Lib.hid hpT
        have HRD7 := Lib.hid hrd7
        have HPE := Lib.hid hpe
        have HPS : Hid (posW (Ws ++ [⟨f, t, .slice none 0 0, []⟩]) f t = n) := by
          show _ = _
          rw [pos_push Ws f t _ (by rw [hpe, hn]), hn]
        have HLS : Hid (∀ f' t', lookW (Ws ++ [⟨f, t, .slice none 0 0, []⟩]) f' t' = L.at_ f' t') := fun f' t' => by rw [look_push]; exact HLK.out f' t'
        have HLN : Hid ((Ws ++ [(⟨f, t, .slice none 0 0, []⟩ : WayD)]).length = n + 1) := by show _ = _; rw [List.length_append, hn]; rfl
        have HNC : Hid (n + 1 ≤ c + 1) := by show _ ≤ _; omega
        have HW1 := Lib.hid hw1
        have e1 : IntKind.i64.wrap ((n : Int) + 1 - 1) = (n : Int) := by rw [show (n : Int) + 1 - 1 = n by omega]; exact IntWalk.i64_in _ ⟨by omega, by omega⟩
        have HE2 : Hid (wrap64 (n : Int) = (n : Int)) := IntWalk.wrap64_in _ (by omega)
        clear hp hpe hAn hnc hcm hrow hw1 hb1 hgx hrun ho7 hg7 hl7 ht7 hz1 hpR hpT hrd7 hn hl f0
        go_wp2_with (at_builtin; rw [← HW1.out]; refine wpList_app_run (v := .slice AL n cL) (u := .slice (some ⟨w.heap.size, 0, none⟩) 1 1) _ rfl _ _ 27 27 rfl rfl rfl HRUN.out ?_)
        go_meet
        exact ⟨n, n + 1, .slice A7 (n + 1) c7, _, _, by rw [HE2.out], by omega, HNC.out, HPS.out, HLN.out, HPR.out, HLS.out, HPT.out, fun k hk => by
          rcases hk with hk | hk
          · exact .inl hk
          · exact .inr hk.1, HRD7.out⟩
    case rest =>
      obtain ⟨p, m, vL', Ws', F', rfl, hpm, hmc, HPP, HLN, HRW, HLW, HTW, HFW, HRDW⟩ := hcut
      clear HW HRR HRD HLK H1 H2 hl HNN hn hV0
      obtain ⟨W, hW, hwf, hlk⟩ := pos_at (Ws := Ws') (f := f) (t := t) (by rw [HPP.out, HLN.out]; exact hpm)
      rw [HPP.out] at hW
      have hWm := List.mem_of_getElem? hW
      obtain ⟨gr, cap, rfl, hnc, hcm, hpn, hgrl, _, _, e2, fz⟩ := HRW.out.at_ HLN.out hW
      have c0 := HRW.out.c0
      have hgl := HRW.out.lt _ HRW.out.here
      have hway := HRW.out.way W hWm
      obtain ⟨k, hkk⟩ : ∃ k, W.ps.length = k := ⟨_, rfl⟩
      rw [hkk] at hway
      obtain ⟨AW, cW, hWv, hkc, _, _, _, _⟩ := own_val hway
      rw [hWv] at e2 hway
      have hokW := HRW.out.ok W hWm
      have hk1024 : k ≤ 1024 := by have := hokW.1; rw [WayD.msgs, List.length_map, hkk] at this; exact this
      have hLM : L (wayN f t) = W.msgs := by rw [← at_yes (L := L) HBO.out, ← HLW.out, hlk]
      have hml : W.msgs.length = k := by rw [WayD.msgs, List.length_map, hkk]
      have i1 : (0 : Int) ≤ (p : Int) := by omega
      have i2 : (p : Int) < (m : Int) := by omega
      by_cases hful : k = 1024
      · have hr : nPut L f t zs = (L, 8) := by rw [nPut, if_neg (by rw [HBO.out]; decide), hLM, hml, if_pos hful]
        have HR := Lib.hid hr
        have j1 : (1024 : Int) ≤ (k : Int) := by omega
        have HTO : Hid (RefNTo g F L (c + 1) w wc) := ⟨F', ⟨_, _, HRW.out, by rw [HLN.out]; exact hmc, HLW.out⟩, HTW.out, HFW.out⟩
        clear hr hful hLM hml hokW hWv hway hW hWm hlk hwf hnc hcm hkk
        go_wp2_with fail
        go_ret
        rw [HR.out]
        exact ⟨rfl, HTO.out⟩
      · have hr : nPut L f t zs = (L.put (wayN f t) (W.msgs ++ [zs]), 0) := by rw [nPut, if_neg (by rw [HBO.out]; decide), hLM, hml, if_neg hful]
        have HR := Lib.hid hr
        have j1 : ¬ ((1024 : Int) ≤ (k : Int)) := by omega
        have HWY := Lib.hid hway
        have HWV := Lib.hid hWv
        have HKK := Lib.hid hkk
        have HW := Lib.hid hW
        have HWM := Lib.hid hWm
        have HOK := Lib.hid hokW
        have HML := Lib.hid hml
        have HWF := Lib.hid hwf
        have HLM := Lib.hid hLM
        have HFU := Lib.hid hful
        have f2 := fz (p * 3 + 2)
        clear hr hful hLM hml hokW hWv hway hW hWm hlk hwf hnc hcm hkk fz
        have FIN : ∀ (w7 : World) (A5 : Option Addr) (c5 : Nat) (v7 : Value), RefN (w7.setCell ⟨gr, p * 3 + 2, none⟩ v7) g (fun b => F' b ∨ (wc.heap.size ≤ b ∧ b < w7.heap.size)) (.slice (some ⟨gr, 0, none⟩) m cap) (Ws'.set p { W with v := v7, ps := W.ps ++ [(.slice A5 nb c5, zs)] }) ∧ Touch F' wc (w7.setCell ⟨gr, p * 3 + 2, none⟩ v7) → wc.heap.size ≤ w7.heap.size → RefNTo g F (nPut L f t zs).1 (c + 1) w (w7.setCell ⟨gr, p * 3 + 2, none⟩ v7) := by
          intro w7 A5 c5 v7 hto hsz
          rw [HR.out]
          refine ⟨fun b => F' b ∨ (wc.heap.size ≤ b ∧ b < w7.heap.size), ⟨_, _, hto.1, by rw [List.length_set, HLN.out]; exact hmc, fun f' t' => ?_⟩, HTW.out.trans hto.2 HFW.out, fun b hb => ?_⟩
          · rw [← HPP.out, look_set f' t' (by rw [HPP.out]; exact HW.out) (by exact HWF.out), HLW.out, put_at L _ HBO.out]
            show (if f' = f ∧ t' = t then (W.ps ++ [(_, zs)]).map Prod.snd else _) = _
            rw [List.map_append]
            rfl
          · rcases hb with hb | hb
            · exact HFW.out b hb
            · exact .inr (Nat.le_trans HTW.out.size hb.1)
        have HFIN := Lib.hid FIN
        clear FIN
        go_wp2_with fail
        -- REGION
        have hS0 : wc.drew.cell? ⟨g, 0, none⟩ = some (.slice (some ⟨gr, 0, none⟩) m cap) := c0
        have e2d : wc.drew.cell? ⟨gr, p * 3 + 2, none⟩ = some (.slice AW k cW) := e2
        clear c0 e2
        refine wp_region_held_drew (S := fun w' => w'.cell? ⟨g, 0, none⟩ = some (.slice (some ⟨gr, 0, none⟩) m cap)) (by kernel_rfl) hS0 (fun _ => ?_)
        refine ytake_0 (v := ?vv1) (by kernel_rfl) (by kernel_rfl) (by kernel_rfl) (fun _ _ _ h => h) (Or.inl ⟨by rfl, ?hy1⟩) hS0 ?_
        case hy1 =>
          intro wX hSw
          go_simp
          try with_reducible rfl
        try simp only [Act.put, List.setIfInBounds_toArray, List.set_cons_zero, List.set_cons_succ]
        refine ytake_1 (v := ?vv2) (by kernel_rfl) (by kernel_rfl) (by kernel_rfl) (fun _ _ _ h => h) (Or.inl ⟨by rfl, ?hy2⟩) hS0 ?_
        case hy2 =>
          intro wX hSw
          go_simp
          try with_reducible rfl
        try simp only [Act.put, List.setIfInBounds_toArray, List.set_cons_zero, List.set_cons_succ]
        refine ytake_2 (v := ?vv3) (by kernel_rfl) (by kernel_rfl) (by kernel_rfl) (fun _ _ _ h => h) (Or.inl ⟨by rfl, ?hy3⟩) hS0 ?_
        case hy3 =>
          intro wX hSw
          go_simp
          try with_reducible rfl
        try simp only [Act.put, List.setIfInBounds_toArray, List.set_cons_zero, List.set_cons_succ]
        refine ytake_3 (v := ?vv4) (by kernel_rfl) (by kernel_rfl) (by kernel_rfl) (fun _ _ _ h => h) (Or.inl ⟨by rfl, ?hy4⟩) hS0 ?_
        case hy4 =>
          intro wX hSw
          go_simp
          try with_reducible rfl
        try simp only [Act.put, List.setIfInBounds_toArray, List.set_cons_zero, List.set_cons_succ]
        refine ytake_4 (v := ?vv5) (by kernel_rfl) (by kernel_rfl) (by kernel_rfl) (fun _ _ _ h => h) (Or.inl ⟨by rfl, ?hy5⟩) hS0 ?_
        case hy5 =>
          intro wX hSw
          go_simp
          try with_reducible rfl
        try simp only [Act.put, List.setIfInBounds_toArray, List.set_cons_zero, List.set_cons_succ]
        refine ytake_5 (v := ?vv6) (by kernel_rfl) (by kernel_rfl) (by kernel_rfl) (fun _ _ _ h => h) (Or.inl ⟨by rfl, ?hy6⟩) hS0 ?_
        case hy6 =>
          intro wX hSw
          go_simp
          try with_reducible rfl
        try simp only [Act.put, List.setIfInBounds_toArray, List.set_cons_zero, List.set_cons_succ]
        refine ytake_6 (v := ?vv7) (by kernel_rfl) (by kernel_rfl) (by kernel_rfl) (fun _ _ _ h => h) (Or.inl ⟨by rfl, ?hy7⟩) hS0 ?_
        case hy7 =>
          intro wX hSw
          go_simp
          try with_reducible rfl
        try simp only [Act.put, List.setIfInBounds_toArray, List.set_cons_zero, List.set_cons_succ]
        refine ytake_7 (v := ?vv8) (by kernel_rfl) (by kernel_rfl) (by kernel_rfl) (fun _ _ _ h => h) (Or.inl ⟨by rfl, ?hy8⟩) hS0 ?_
        case hy8 =>
          intro wX hSw
          go_simp
          try with_reducible rfl
        try simp only [Act.put, List.setIfInBounds_toArray, List.set_cons_zero, List.set_cons_succ]
        refine ytake_8 (v := ?vv9) (by kernel_rfl) (by kernel_rfl) (by kernel_rfl) (fun _ _ _ h => h) (Or.inl ⟨by rfl, ?hy9⟩) hS0 ?_
        case hy9 =>
          intro wX hSw
          go_simp
          try with_reducible rfl
        try simp only [Act.put, List.setIfInBounds_toArray, List.set_cons_zero, List.set_cons_succ]
        refine ytake_9 (v := ?vv10) (by kernel_rfl) (by kernel_rfl) (by kernel_rfl) (fun _ _ _ h => h) (Or.inl ⟨by rfl, ?hy10⟩) hS0 ?_
        case hy10 =>
          intro wX hSw
          go_simp
          try with_reducible rfl
        try simp only [Act.put, List.setIfInBounds_toArray, List.set_cons_zero, List.set_cons_succ]
        refine ytake_10 (v := ?vv11) (by kernel_rfl) (by kernel_rfl) (by kernel_rfl) (fun _ _ _ h => h) (Or.inl ⟨by rfl, ?hy11⟩) hS0 ?_
        case hy11 =>
          intro wX hSw
          go_simp
          try with_reducible rfl
        try simp only [Act.put, List.setIfInBounds_toArray, List.set_cons_zero, List.set_cons_succ]
        refine ytake_11 (v := ?vv12) (by kernel_rfl) (by kernel_rfl) (by kernel_rfl) (fun _ _ _ h => h) (Or.inl ⟨by rfl, ?hy12⟩) hS0 ?_
        case hy12 =>
          intro wX hSw
          go_simp
          try with_reducible rfl
        try simp only [Act.put, List.setIfInBounds_toArray, List.set_cons_zero, List.set_cons_succ]
        refine ytake_13 (v := ?vv13) (by kernel_rfl) (by kernel_rfl) (by kernel_rfl) (fun _ _ _ h => h) (Or.inl ⟨by rfl, ?hy13⟩) hS0 ?_
        case hy13 =>
          intro wX hSw
          go_simp
          try with_reducible rfl
        try simp only [Act.put, List.setIfInBounds_toArray, List.set_cons_zero, List.set_cons_succ]
        refine yready_12_14 (by kernel_rfl) ?_ ?_
        · intro KQ hK
          rw [if_pos (by rfl)]
          unfold Oper.wp execOp
          go_simp
          refine hK.out _ _ hS0 (fun _ => ?_)
          clear hK KQ
          try simp only [Act.put, List.setIfInBounds_toArray, List.set_cons_zero, List.set_cons_succ]
          refine yready_14 (by kernel_rfl) ?_
          intro KQ hK
          refine step_copyN (by rfl) (by rfl) (by rfl) (copyBytes_any A cb nb zs _ HZ.out (Rd.drew HRDW.out) hcb (by omega)) ?_
          rintro e w5 ⟨v5, rfl, ho5, hb5⟩
          have hb25 : Below wc.heap.size wc w5 := ((Below.refl _ _).drew).trans hb5
          have ho5b := own_cast ho5 ((u8s_length _).trans HZ.out)
          obtain ⟨A5, c5, rfl, _, _, _, _, _⟩ := own_val ho5b
          refine ⟨_, rfl, ?_⟩
          have hS5 : w5.cell? ⟨g, 0, none⟩ = some (.slice (some ⟨gr, 0, none⟩) m cap) := (hb25.cell (p := ⟨g, 0, none⟩) hgl).trans hS0
          have k2 : w5.cell? ⟨gr, p * 3 + 2, none⟩ = some (.slice AW k cW) := (hb25.cell (p := ⟨gr, p * 3 + 2, none⟩) hgrl).trans e2d
          obtain ⟨w6, hw6⟩ : ∃ w6, w6 = w5.alloc (.cells #[.slice A5 nb c5] 30) := ⟨_, rfl⟩
          have hS6 : w6.cell? ⟨g, 0, none⟩ = some (.slice (some ⟨gr, 0, none⟩) m cap) := by rw [hw6]; exact ((hb25.alloc hb25.size _).cell (p := ⟨g, 0, none⟩) hgl).trans hS0
          have k2a : w6.cell? ⟨gr, p * 3 + 2, none⟩ = some (.slice AW k cW) := by rw [hw6]; exact ((hb25.alloc hb25.size _).cell (p := ⟨gr, p * 3 + 2, none⟩) hgrl).trans e2d
          have HW6 := Lib.hid hw6
          have hrow6 : w6.ownsRow 0 30 1 (.slice AW k cW) k (W.ps.map Prod.fst) := by rw [hw6]; exact own_below HWY.out (hb25.alloc hb25.size _)
          have hnew6 : w6.cell? ⟨w5.heap.size, 0, none⟩ = some (.slice A5 nb c5) := by rw [hw6]; exact cell_new _ _ _
          clear hw6
          refine hK.out _ _ hS5 (fun _ => ?_)
          clear hK KQ
          try simp only [Act.put, List.setIfInBounds_toArray, List.set_cons_zero, List.set_cons_succ]
          refine yready_15 (by kernel_rfl) ?_
          intro KQ hK
          rw [if_pos (by rfl)]
          unfold Oper.wp execOp
          go_simp
          rw [← HW6.out]
          refine hK.out _ _ hS6 (fun _ => ?_)
          clear hK KQ
          try simp only [Act.put, List.setIfInBounds_toArray, List.set_cons_zero, List.set_cons_succ]
          refine yready_16 (by kernel_rfl) ?_
          intro KQ hK
          refine step_app_lies _ (by rfl) _ _ _ (by rfl) 0 30 (.slice none 0 0) 24 Try.underlying61 info_bs rfl (by decide) _ k (W.ps.map Prod.fst) (by rfl) hrow6 w5.heap.size (.slice A5 nb c5) (by rfl) hnew6 (by rfl) (by omega) (Nat.zero_le _) ?_
          intro g' c' w7 ho7 hg7 hl7
          rw [HW6.out] at hg7 hl7
          obtain ⟨hto, hS7, l7, f7⟩ := HRW.out.putEnd HLN.out HW.out HWV.out HKK.out hb25 ho5b HZ.out ho7 hg7 hl7 HY.out hnb HFU.out
          refine hK.out _ _ hS7 (fun _ => ?_)
          clear hK KQ
          try simp only [Act.put, List.setIfInBounds_toArray, List.set_cons_zero, List.set_cons_succ]
          refine ytake_17 (v := ?vv14) (by kernel_rfl) (by kernel_rfl) (by kernel_rfl) (fun _ _ _ h => h) (Or.inl ⟨by rfl, ?hy14⟩) hS7 ?_
          case hy14 =>
            intro wX hSw
            go_simp
            try with_reducible rfl
          try simp only [Act.put, List.setIfInBounds_toArray, List.set_cons_zero, List.set_cons_succ]
          refine ytake_18 (v := ?vv15) (by kernel_rfl) (by kernel_rfl) (by kernel_rfl) (fun _ _ _ h => h) (Or.inl ⟨by rfl, ?hy15⟩) hS7 ?_
          case hy15 =>
            intro wX hSw
            go_simp
            try with_reducible rfl
          try simp only [Act.put, List.setIfInBounds_toArray, List.set_cons_zero, List.set_cons_succ]
          have HTO := Lib.hid hto
          have HFS : Hid (wc.heap.size ≤ w7.heap.size) := by
            show _ ≤ _
            have h1 := hg7.size
            have h2 := hb25.size
            have h3 : (w5.alloc (.cells #[.slice A5 nb c5] 30)).heap.size = w5.heap.size + 1 := by simp
            omega
          have hS8 : (w7.setCell ⟨gr, p * 3 + 2, none⟩ (.slice (some ⟨g', 0, none⟩) (k + 1) c')).cell? ⟨g, 0, none⟩ = some (.slice (some ⟨gr, 0, none⟩) m cap) := HTO.out.1.c0
          clear hto ho7 hg7 hl7 k2 k2a ho5 ho5b hb5 hb25 hrow6 hnew6
          refine yready_19 (by kernel_rfl) ?_
          intro KQ hK
          rw [if_pos (by rfl)]
          unfold Oper.wp execOp
          go_simp
          refine hK.out _ _ hS8 (fun _ => ?_)
          clear hK KQ hS8 l7 f7 hS7
          try simp only [Act.put, List.setIfInBounds_toArray, List.set_cons_zero, List.set_cons_succ]
          refine wpAnyH_done (by kernel_rfl) ?_ _
          go_wp2_with fail
          go_ret
          exact ⟨by rw [HR.out]; rfl, HFIN.out _ _ _ _ HTO.out HFS.out⟩
        · intro KQ hK
          refine step_copyN (by rfl) (by rfl) (by rfl) (copyBytes_any A cb nb zs _ HZ.out (Rd.drew HRDW.out) hcb (by omega)) ?_
          rintro e w5 ⟨v5, rfl, ho5, hb5⟩
          have hb25 : Below wc.heap.size wc w5 := ((Below.refl _ _).drew).trans hb5
          have ho5b := own_cast ho5 ((u8s_length _).trans HZ.out)
          obtain ⟨A5, c5, rfl, _, _, _, _, _⟩ := own_val ho5b
          refine ⟨_, rfl, ?_⟩
          have hS5 : w5.cell? ⟨g, 0, none⟩ = some (.slice (some ⟨gr, 0, none⟩) m cap) := (hb25.cell (p := ⟨g, 0, none⟩) hgl).trans hS0
          have k2 : w5.cell? ⟨gr, p * 3 + 2, none⟩ = some (.slice AW k cW) := (hb25.cell (p := ⟨gr, p * 3 + 2, none⟩) hgrl).trans e2d
          obtain ⟨w6, hw6⟩ : ∃ w6, w6 = w5.alloc (.cells #[.slice A5 nb c5] 30) := ⟨_, rfl⟩
          have hS6 : w6.cell? ⟨g, 0, none⟩ = some (.slice (some ⟨gr, 0, none⟩) m cap) := by rw [hw6]; exact ((hb25.alloc hb25.size _).cell (p := ⟨g, 0, none⟩) hgl).trans hS0
          have k2a : w6.cell? ⟨gr, p * 3 + 2, none⟩ = some (.slice AW k cW) := by rw [hw6]; exact ((hb25.alloc hb25.size _).cell (p := ⟨gr, p * 3 + 2, none⟩) hgrl).trans e2d
          have HW6 := Lib.hid hw6
          have hrow6 : w6.ownsRow 0 30 1 (.slice AW k cW) k (W.ps.map Prod.fst) := by rw [hw6]; exact own_below HWY.out (hb25.alloc hb25.size _)
          have hnew6 : w6.cell? ⟨w5.heap.size, 0, none⟩ = some (.slice A5 nb c5) := by rw [hw6]; exact cell_new _ _ _
          clear hw6
          refine hK.out _ _ hS5 (fun _ => ?_)
          clear hK KQ
          try simp only [Act.put, List.setIfInBounds_toArray, List.set_cons_zero, List.set_cons_succ]
          refine yready_12_15 (by kernel_rfl) ?_ ?_
          · intro KQ hK
            rw [if_pos (by rfl)]
            unfold Oper.wp execOp
            go_simp
            refine hK.out _ _ hS5 (fun _ => ?_)
            clear hK KQ
            try simp only [Act.put, List.setIfInBounds_toArray, List.set_cons_zero, List.set_cons_succ]
            refine yready_15 (by kernel_rfl) ?_
            intro KQ hK
            rw [if_pos (by rfl)]
            unfold Oper.wp execOp
            go_simp
            rw [← HW6.out]
            refine hK.out _ _ hS6 (fun _ => ?_)
            clear hK KQ
            try simp only [Act.put, List.setIfInBounds_toArray, List.set_cons_zero, List.set_cons_succ]
            refine yready_16 (by kernel_rfl) ?_
            intro KQ hK
            refine step_app_lies _ (by rfl) _ _ _ (by rfl) 0 30 (.slice none 0 0) 24 Try.underlying61 info_bs rfl (by decide) _ k (W.ps.map Prod.fst) (by rfl) hrow6 w5.heap.size (.slice A5 nb c5) (by rfl) hnew6 (by rfl) (by omega) (Nat.zero_le _) ?_
            intro g' c' w7 ho7 hg7 hl7
            rw [HW6.out] at hg7 hl7
            obtain ⟨hto, hS7, l7, f7⟩ := HRW.out.putEnd HLN.out HW.out HWV.out HKK.out hb25 ho5b HZ.out ho7 hg7 hl7 HY.out hnb HFU.out
            refine hK.out _ _ hS7 (fun _ => ?_)
            clear hK KQ
            try simp only [Act.put, List.setIfInBounds_toArray, List.set_cons_zero, List.set_cons_succ]
            refine ytake_17 (v := ?vv14) (by kernel_rfl) (by kernel_rfl) (by kernel_rfl) (fun _ _ _ h => h) (Or.inl ⟨by rfl, ?hy14⟩) hS7 ?_
            case hy14 =>
              intro wX hSw
              go_simp
              try with_reducible rfl
            try simp only [Act.put, List.setIfInBounds_toArray, List.set_cons_zero, List.set_cons_succ]
            refine ytake_18 (v := ?vv15) (by kernel_rfl) (by kernel_rfl) (by kernel_rfl) (fun _ _ _ h => h) (Or.inl ⟨by rfl, ?hy15⟩) hS7 ?_
            case hy15 =>
              intro wX hSw
              go_simp
              try with_reducible rfl
            try simp only [Act.put, List.setIfInBounds_toArray, List.set_cons_zero, List.set_cons_succ]
            have HTO := Lib.hid hto
            have HFS : Hid (wc.heap.size ≤ w7.heap.size) := by
              show _ ≤ _
              have h1 := hg7.size
              have h2 := hb25.size
              have h3 : (w5.alloc (.cells #[.slice A5 nb c5] 30)).heap.size = w5.heap.size + 1 := by simp
              omega
            have hS8 : (w7.setCell ⟨gr, p * 3 + 2, none⟩ (.slice (some ⟨g', 0, none⟩) (k + 1) c')).cell? ⟨g, 0, none⟩ = some (.slice (some ⟨gr, 0, none⟩) m cap) := HTO.out.1.c0
            clear hto ho7 hg7 hl7 k2 k2a ho5 ho5b hb5 hb25 hrow6 hnew6
            refine yready_19 (by kernel_rfl) ?_
            intro KQ hK
            rw [if_pos (by rfl)]
            unfold Oper.wp execOp
            go_simp
            refine hK.out _ _ hS8 (fun _ => ?_)
            clear hK KQ hS8 l7 f7 hS7
            try simp only [Act.put, List.setIfInBounds_toArray, List.set_cons_zero, List.set_cons_succ]
            refine wpAnyH_done (by kernel_rfl) ?_ _
            go_wp2_with fail
            go_ret
            exact ⟨by rw [HR.out]; rfl, HFIN.out _ _ _ _ HTO.out HFS.out⟩
          · intro KQ hK
            rw [if_pos (by rfl)]
            unfold Oper.wp execOp
            go_simp
            rw [← HW6.out]
            refine hK.out _ _ hS6 (fun _ => ?_)
            clear hK KQ
            try simp only [Act.put, List.setIfInBounds_toArray, List.set_cons_zero, List.set_cons_succ]
            refine yready_12 (by kernel_rfl) ?_
            intro KQ hK
            rw [if_pos (by rfl)]
            unfold Oper.wp execOp
            go_simp
            refine hK.out _ _ hS6 (fun _ => ?_)
            clear hK KQ
            try simp only [Act.put, List.setIfInBounds_toArray, List.set_cons_zero, List.set_cons_succ]
            refine yready_16 (by kernel_rfl) ?_
            intro KQ hK
            refine step_app_lies _ (by rfl) _ _ _ (by rfl) 0 30 (.slice none 0 0) 24 Try.underlying61 info_bs rfl (by decide) _ k (W.ps.map Prod.fst) (by rfl) hrow6 w5.heap.size (.slice A5 nb c5) (by rfl) hnew6 (by rfl) (by omega) (Nat.zero_le _) ?_
            intro g' c' w7 ho7 hg7 hl7
            rw [HW6.out] at hg7 hl7
            obtain ⟨hto, hS7, l7, f7⟩ := HRW.out.putEnd HLN.out HW.out HWV.out HKK.out hb25 ho5b HZ.out ho7 hg7 hl7 HY.out hnb HFU.out
            refine hK.out _ _ hS7 (fun _ => ?_)
            clear hK KQ
            try simp only [Act.put, List.setIfInBounds_toArray, List.set_cons_zero, List.set_cons_succ]
            refine ytake_17 (v := ?vv14) (by kernel_rfl) (by kernel_rfl) (by kernel_rfl) (fun _ _ _ h => h) (Or.inl ⟨by rfl, ?hy14⟩) hS7 ?_
            case hy14 =>
              intro wX hSw
              go_simp
              try with_reducible rfl
            try simp only [Act.put, List.setIfInBounds_toArray, List.set_cons_zero, List.set_cons_succ]
            refine ytake_18 (v := ?vv15) (by kernel_rfl) (by kernel_rfl) (by kernel_rfl) (fun _ _ _ h => h) (Or.inl ⟨by rfl, ?hy15⟩) hS7 ?_
            case hy15 =>
              intro wX hSw
              go_simp
              try with_reducible rfl
            try simp only [Act.put, List.setIfInBounds_toArray, List.set_cons_zero, List.set_cons_succ]
            have HTO := Lib.hid hto
            have HFS : Hid (wc.heap.size ≤ w7.heap.size) := by
              show _ ≤ _
              have h1 := hg7.size
              have h2 := hb25.size
              have h3 : (w5.alloc (.cells #[.slice A5 nb c5] 30)).heap.size = w5.heap.size + 1 := by simp
              omega
            have hS8 : (w7.setCell ⟨gr, p * 3 + 2, none⟩ (.slice (some ⟨g', 0, none⟩) (k + 1) c')).cell? ⟨g, 0, none⟩ = some (.slice (some ⟨gr, 0, none⟩) m cap) := HTO.out.1.c0
            clear hto ho7 hg7 hl7 k2 k2a ho5 ho5b hb5 hb25 hrow6 hnew6
            refine yready_19 (by kernel_rfl) ?_
            intro KQ hK
            rw [if_pos (by rfl)]
            unfold Oper.wp execOp
            go_simp
            refine hK.out _ _ hS8 (fun _ => ?_)
            clear hK KQ hS8 l7 f7 hS7
            try simp only [Act.put, List.setIfInBounds_toArray, List.set_cons_zero, List.set_cons_succ]
            refine wpAnyH_done (by kernel_rfl) ?_ _
            go_wp2_with fail
            go_ret
            exact ⟨by rw [HR.out]; rfl, HFIN.out _ _ _ _ HTO.out HFS.out⟩

end Go.Proofs.Ytbffaaljommoeaa
