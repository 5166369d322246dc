/-
  The page's own net: Double, Clear.
-/
import Derived.Test.YtbffaaljommoeaaNRefT
namespace Go.Proofs.Ytbffaaljommoeaa
open Go.RowKit

theorem RefNTo.before {w w' w2 : World} {g : Nat} {F : Nat → Prop} {L : PN} {c : Nat} (h : RefNTo g F L c w' w2) (hb : Below w.heap.size w w') : RefNTo g F L c w w2 := by
  obtain ⟨F1, h1, h2, h3⟩ := h
  exact ⟨F1, h1, (Touch.of hb : Touch F w w').trans h2 fun _ hk => .inl hk, fun b hk => (h3 b hk).imp id fun e => Nat.le_trans hb.size e⟩

set_option maxRecDepth 100000 in
set_option maxHeartbeats 8000000 in
theorem rdouble_is {F : Nat → Prop} {L : PN} {c : Nat} (g : Nat) (f t k : Int) (w : World) (h : IsRefN w g F L c) (hc : c ≤ 1000) :
    Calls Try.prog 15 #[.pointer (some ⟨g, 0, none⟩), .int .i64 f, .int .i64 t, .int .i64 k] w fun e w' => e = .returned (.int .i64 (nDouble L f t k).2) ∧ RefNTo g F (nDouble L f t k).1 (c + 1) w w' := by
  have HC := Lib.hid (rcount_is f t w h (by omega))
  have HS : Hid (RefNTo g F L (c + 1) w w) := refNTo_same (h.more (Nat.le_succ c)) (Below.refl _ _)
  cases hkk : hasK L f t k with
  | false =>
    rw [nDouble, if_pos hkk]
    obtain ⟨n, hn⟩ : ∃ n, (L.at_ f t).length = n := ⟨_, rfl⟩
    rw [hn] at HC
    have hk : ¬ (0 ≤ k ∧ k < (n : Int)) := fun hh => by
      rw [← hn, ← hasK_iff, hkk] at hh
      cases hh
    by_cases k0 : k < 0
    · clear h hkk hn hk
      go_enter Try.func15, Try.ntmps15
      go_wp2_with fail
      go_ret
      exact ⟨rfl, HS.out⟩
    · have k1 : (n : Int) ≤ k := by omega
      clear h hkk hn hk
      go_enter Try.func15, Try.ntmps15
      go_wp2_with fail
      refine HC.out.mono ?_
      rintro e w' ⟨rfl, rfl⟩
      go_wp2_with fail
      go_ret
      exact ⟨rfl, HS.out⟩
  | true =>
    have hb := hasK_both hkk
    have hk := hasK_iff.1 hkk
    rw [at_yes hb] at hk
    obtain ⟨j, rfl⟩ : ∃ j : Nat, k = j := ⟨k.toNat, by omega⟩
    have hI := h
    obtain ⟨vL, Ws, hR, hl, hlk⟩ := h
    have hLW : lookW Ws f t = L (wayN f t) := by rw [hlk, at_yes hb]
    have hp : posW Ws f t < Ws.length := by
      rcases Nat.lt_or_ge (posW Ws f t) Ws.length with h' | h'
      · exact h'
      · exfalso
        rw [look_no (by omega)] at hLW
        rw [← hLW] at hk
        simp at hk
        omega
    obtain ⟨W, hW, hwf, hlw⟩ := pos_at hp
    have hWm := List.mem_of_getElem? hW
    obtain ⟨p, hpp⟩ : ∃ p, posW Ws f t = p := ⟨_, rfl⟩
    obtain ⟨m, hm⟩ : ∃ m, Ws.length = m := ⟨_, rfl⟩
    have HW : Hid (∀ wX, Below w.heap.size w wX → Calls Try.prog 27 #[.pointer (some ⟨g, 0, none⟩), .int .i64 f, .int .i64 t] wX fun e w' => e = .returned (.int .i64 p) ∧ wX = w') := fun wX hX => by
      have := rway_is f t wX (hR.below hX) (by omega)
      rwa [way_yes hp, hpp] at this
    rw [hpp] at hW hp
    rw [hm] at hp
    obtain ⟨gr, cap, hv, hnc, hcm, hpn, hgrl, _, _, e2, fz⟩ := hR.at_ hm hW
    subst hv
    have c0 := hR.c0
    have hmsg : W.msgs = L (wayN f t) := by rw [← hlw, hLW]
    obtain ⟨n, hkk'⟩ : ∃ n, W.ps.length = n := ⟨_, rfl⟩
    have hkl : (L (wayN f t)).length = n := by rw [← hmsg, WayD.msgs, List.length_map, hkk']
    rw [at_yes hb, hkl] at HC
    rw [hkl] at hk
    have hway := hR.way W hWm
    rw [hkk'] at hway
    obtain ⟨ga, cW, hWv, hkc, hkcm⟩ : ∃ ga cW, W.v = .slice (some ⟨ga, 0, none⟩) n cW ∧ n ≤ cW ∧ cW ≤ maxLen := by
      rcases hway.2 with ⟨_, h0⟩ | ⟨ga, cW, cur, hv, _, _, q1, q2, _⟩
      · omega
      · exact ⟨ga, cW, hv, q1, q2⟩
    rw [hWv] at e2 hway
    obtain ⟨⟨u, x⟩, hps⟩ : ∃ q, W.ps[j]? = some q := ⟨W.ps[j]'(by omega), by simp [show j < W.ps.length by omega]⟩
    have hxm : (L (wayN f t))[j]? = some x := by
      rw [← hmsg, WayD.msgs, List.getElem?_map, hps]; rfl
    have hmN : msgN L f t (j : Int) = x := by rw [msgN, at_yes hb, Int.toNat_natCast, hxm]; rfl
    have hui := hR.inn W hWm _ (List.mem_of_getElem? hps)
    have huz := (hR.ok W hWm).2 x (by rw [hmsg]; exact List.mem_of_getElem? hxm)
    simp only at hui
    obtain ⟨nx, hz⟩ : ∃ nx, x.length = nx := ⟨_, rfl⟩
    rw [hz] at hui
    obtain ⟨Au, cu, hu, hnu, _, hru, _, _⟩ := own_val hui
    subst hu
    have e3 := hway.cells (g := ga) rfl j (.slice Au nx cu) (by rw [List.getElem?_map, hps]; rfl)
    rw [Addr.add_lit, Nat.zero_add] at e3
    have hne : L.at_ f t ≠ [] := fun e => by
      rw [at_yes hb] at e
      rw [e] at hkl
      simp at hkl
      omega
    have hpd : nPut L f t x = nDouble L f t (j : Int) := by
      rw [nDouble, if_neg (by rw [hkk]; decide), hmN, nPut, if_neg (by rw [hb]; decide)]
    have HPUT : Hid (∀ wX, Below w.heap.size w wX → Calls Try.prog 21 #[.pointer (some ⟨g, 0, none⟩), .int .i64 f, .int .i64 t, .slice Au nx cu] wX fun e w' => e = .returned (.int .i64 (nDouble L f t j).2) ∧ RefNTo g F (nDouble L f t j).1 (c + 1) wX w') := fun wX hX => by
      have := rput_is g f t Au nx cu x wX (hI.below hX) hc hz (hru.below hX) huz.1 (by rw [← hz]; exact huz.2) hnu (.inl hne)
      rwa [hpd] at this
    have i0 : (0 : Int) ≤ (j : Int) := by omega
    have i1 : ¬ ((j : Int) < 0) := by omega
    have i2 : ¬ ((n : Int) ≤ (j : Int)) := by omega
    have i3 : (j : Int) < (n : Int) := by omega
    have i4 : (0 : Int) ≤ (p : Int) := by omega
    have i5 : (p : Int) < (m : Int) := by omega
    obtain ⟨R, hRR⟩ : ∃ R, nDouble L f t (j : Int) = R := ⟨_, rfl⟩
    rw [hRR] at HPUT ⊢
    clear hR hW hWv hWm hm hpp hlk hl hb hmsg hkk hwf hui hway hps hxm hmN hz hkl hLW hlw hp hpn hnc hcm fz huz hI hk hkk' hkc hkcm hru hnu hne hpd hRR HS
    go_enter Try.func15, Try.ntmps15
    go_wp2_with fail
    refine HC.out.mono ?_
    rintro e w' ⟨rfl, rfl⟩
    clear HC
    go_wp2_with fail
    go_region_with (first
      | (go_at_call 27; refine (HW.out _ (by first | exact (Below.refl _ _).drew | exact Below.refl _ _)).mono ?_; rintro e w' ⟨rfl, rfl⟩)
      | (go_at_call 21; refine (HPUT.out _ (by first | exact (Below.refl _ _).drew | exact Below.refl _ _)).mono ?_; rintro e w5 ⟨rfl, hto⟩))
    all_goals
      have HTO := Lib.hid (hto.before ((Below.refl _ _).drew))
      clear hto
      go_wp2_with fail
      go_ret
      exact ⟨rfl, HTO.out⟩

/-- the first k ways cleared, if they lead to t -/
def clrTo (t : Int) (Ws : List WayD) (k : Nat) : List WayD := (Ws.take k).map (clrW t) ++ Ws.drop k
theorem clrTo_zero (t : Int) (Ws : List WayD) : clrTo t Ws 0 = Ws := rfl
theorem clrTo_all (t : Int) (Ws : List WayD) : clrTo t Ws Ws.length = Ws.map (clrW t) := by simp [clrTo]
theorem clrTo_length (t : Int) (Ws : List WayD) (k : Nat) : (clrTo t Ws k).length = Ws.length := by
  simp [clrTo]; omega
theorem clrTo_at {t : Int} {Ws : List WayD} {k : Nat} {W : WayD} (h : Ws[k]? = some W) : (clrTo t Ws k)[k]? = some W := by
  have hk := (List.getElem?_eq_some_iff.1 h).1
  rw [clrTo, List.getElem?_append_right (by simp; omega)]
  simp only [List.length_map, List.length_take, Nat.min_eq_left (Nat.le_of_lt hk), Nat.sub_self, List.getElem?_drop, Nat.add_zero]
  exact h
theorem clrTo_next {t : Int} {Ws : List WayD} {k : Nat} {W : WayD} (h : Ws[k]? = some W) : clrTo t Ws (k + 1) = (clrTo t Ws k).set k (clrW t W) := by
  have hk := (List.getElem?_eq_some_iff.1 h).1
  have hd : Ws.drop k = W :: Ws.drop (k + 1) := by
    rw [List.drop_eq_getElem_cons hk]
    congr 1
    exact (List.getElem?_eq_some_iff.1 h).2
  have hl : ((Ws.take k).map (clrW t)).length = k := by simp; omega
  rw [clrTo, clrTo, hd, List.set_append_right _ _ (by omega), hl, Nat.sub_self, List.set_cons_zero, List.take_add_one, h, List.map_append, List.append_assoc]
  rfl
theorem clrW_no {t : Int} {W : WayD} (h : W.t ≠ t) : clrW t W = W := by rw [clrW, if_neg h]
theorem set_self_at {Ws : List WayD} {k : Nat} {W : WayD} (h : Ws[k]? = some W) : Ws.set k W = Ws := by
  apply List.ext_getElem?
  intro j
  by_cases hj : j = k
  · subst hj
    rw [List.getElem?_set_self (List.getElem?_eq_some_iff.1 h).1, h]
  · rw [List.getElem?_set_ne (Ne.symm hj)]

set_option maxHeartbeats 4000000 in
theorem rclear_is {F : Nat → Prop} {L : PN} {c : Nat} (g : Nat) (t : Int) (w : World) (h : IsRefN w g F L c) (hc : c ≤ 1000) :
    Calls Try.prog 18 #[.pointer (some ⟨g, 0, none⟩), .int .i64 t] w fun e w' => e = .returned (.tuple #[]) ∧ RefNTo g F (nClear L t) c w w' := by
  obtain ⟨vL, Ws, hR, hl, hlk⟩ := h
  obtain ⟨n, hn⟩ : ∃ n, Ws.length = n := ⟨_, rfl⟩
  obtain ⟨AL, cL, rfl, _, _, _⟩ := hR.slice hn
  have HR := Lib.hid hR
  have HN := Lib.hid hn
  have HLK := Lib.hid hlk
  rw [hn] at hl
  clear hR hn hlk
  go_enter Try.func18, Try.ntmps18
  go_wp2_with fail
  go_loopw [4] (fun i wr => ∃ (k : Nat) (F' : Nat → Prop), i = .int .i64 k ∧ k ≤ n ∧ Hid (RefN wr g F' (.slice AL n cL) (clrTo t Ws k)) ∧ Hid (Touch F w wr) ∧ Hid (∀ b, F' b → F b ∨ w.heap.size ≤ b)) (fun i _ => n - (intOf i).toNat)
  case atStart => exact ⟨0, F, rfl, by omega, by rw [clrTo_zero]; exact HR.out, Touch.refl _ _, fun b hb => .inl hb⟩
  case round =>
    obtain ⟨k, F', rfl, hk, HRK, HT, HF⟩ := hrel
    have c0 := HRK.out.c0
    have i0 : (0 : Int) ≤ (k : Int) := by omega
    by_cases hlt : k < n
    · have i1 : (k : Int) < (n : Int) := by omega
      obtain ⟨W, hW⟩ : ∃ W, Ws[k]? = some W := ⟨Ws[k]'(by rw [HN.out]; exact hlt), by simp [HN.out, hlt]⟩
      have hWk := clrTo_at (t := t) hW
      have hln : (clrTo t Ws k).length = n := by rw [clrTo_length, HN.out]
      obtain ⟨gr, cap, hv, _, _, _, hgrl, _, e1, e2, fz⟩ := HRK.out.at_ hln hWk
      cases hv
      have f2 := fz (k * 3 + 2)
      by_cases ht : W.t = t
      · rw [ht] at e1
        obtain ⟨q1, q2⟩ := HRK.out.wayTo hWk rfl hln (Touch.refl _ _) (v2 := .slice none 0 0) (ps2 := []) (World.ownsRow_nil _ _ _ _) (fun b hb => by simp [Value.ownBlock] at hb) (fun p hp => by simp at hp) (fun p hp => by simp at hp) OkMsgs.nil
        have hcw : ({ W with v := .slice none 0 0, ps := [] } : WayD) = clrW t W := by rw [clrW, if_pos ht]
        rw [hcw, ← clrTo_next hW] at q1
        obtain ⟨A9, c9, hWv, _, _, _, _, _⟩ := own_val (HRK.out.way W (List.mem_of_getElem? hWk))
        rw [hWv] at e2
        have HQ1 := Lib.hid q1
        have HQ2 := Lib.hid q2
        clear hW hWk hln fz ht q1 q2 hcw hWv
        go_wp2_with fail
        go_roundw
        case rel =>
          refine ⟨k + 1, _, by go_num, by omega, HQ1.out, HT.out.trans HQ2.out HF.out, fun b hb => ?_⟩
          rcases hb with hb | hb
          · exact HF.out b hb
          · exact .inr (Nat.le_trans HT.out.size hb.1)
        case measure => simp [intOf]; omega
      · have HQ1 : Hid (RefN wr g F' (.slice (some ⟨gr, 0, none⟩) n cL) (clrTo t Ws (k + 1))) := by
          show RefN _ _ _ _ _
          rw [clrTo_next hW, clrW_no ht, set_self_at hWk]
          exact HRK.out
        have j1 : (W.t == t) = false := by simp [ht]
        obtain ⟨x, hx⟩ : ∃ x, W.t = x := ⟨_, rfl⟩
        rw [hx] at e1 j1 ht
        clear hW hWk hln fz hx e2 f2
        go_wp2_with fail
        go_roundw
        case rel => exact ⟨k + 1, F', by go_num, by omega, HQ1.out, HT.out, HF.out⟩
        case measure => simp [intOf]; omega
    · have i1 : ¬ ((k : Int) < (n : Int)) := by omega
      obtain rfl : k = n := by omega
      have HFIN : Hid (RefNTo g F (nClear L t) c w wr) := by
        have h1 := HRK.out
        rw [show clrTo t Ws k = Ws.map (clrW t) by rw [← HN.out, clrTo_all]] at h1
        exact ⟨F', ⟨_, _, h1, by rw [List.length_map, HN.out]; exact hl, fun f' t' => by rw [look_clear, clr_at, HLK.out]⟩, HT.out, HF.out⟩
      go_wp2_with fail
      go_end0
      exact ⟨rfl, HFIN.out⟩

end Go.Proofs.Ytbffaaljommoeaa
