/-
  The page's own net: node, way, Count, Put.
-/
import Derived.Test.YtbffaaljommoeaaNRefD
import Derived.Test.YtbffaaljommoeaaNLiveG
import Derived.Test.YtbffaaljommoeaaAppElem
import Derived.Test.YtbffaaljommoeaaDSl
import Derived.Deep.RegionLaw
import Derived.Deep.DeepCutAuto
import Derived.Deep.CutRange
namespace Go.Proofs.Ytbffaaljommoeaa
open Go.RowKit

theorem rnode_is (n : Int) (w : World) : Calls Try.prog 30 #[.int .i64 n] w fun e w' => e = .returned (.bool (nodeN n)) ∧ w = w' := by
  have key : ∀ b : Bool, nodeN n = b → Calls Try.prog 30 #[.int .i64 n] w fun e w' => e = .returned (.bool b) ∧ w = w' := by
    intro b hb
    unfold nodeN at hb
    by_cases h1 : (1 : Int) ≤ n <;> by_cases h2 : n ≤ 16
    all_goals
      simp [h1, h2] at hb
      subst hb
      go_enter Try.func30, Try.ntmps30
      go_wp2
      go_ret
      exact ⟨rfl, rfl⟩
  exact key _ rfl

section
variable {g n : Nat} {F : Nat → Prop} {vL : Value} {Ws : List WayD} {L : PN} {c : Nat}
/-- what 'way' says -/
def wayV (Ws : List WayD) (f t : Int) : Int := if posW Ws f t < Ws.length then (posW Ws f t : Int) else -1

set_option maxHeartbeats 2000000 in
theorem rway_is (f t : Int) (w : World) (h : RefN w g F vL Ws) (hl : Ws.length ≤ 1000000) :
    Calls Try.prog 27 #[.pointer (some ⟨g, 0, none⟩), .int .i64 f, .int .i64 t] w fun e w' => e = .returned (.int .i64 (wayV Ws f t)) ∧ w = w' := by
  obtain ⟨n, hn⟩ : ∃ n, Ws.length = n := ⟨_, rfl⟩
  rw [hn] at hl
  obtain ⟨V, hV⟩ : ∃ V, wayV Ws f t = V := ⟨_, rfl⟩
  rw [hV]
  obtain ⟨A, cL, rfl, hnc, hcm, _⟩ := h.slice hn
  have c0 := h.c0
  have HH := Lib.hid h
  have HN := Lib.hid hn
  have HV := Lib.hid hV
  clear h hn hV
  go_enter Try.func27, Try.ntmps27
  go_wp2_with fail
  go_loop [7] (fun i => ∃ k : Nat, i = .int .i64 k ∧ k ≤ n ∧ Hid (k ≤ posW Ws f t)) (fun i => n - (intOf i).toNat)
  case atStart => exact ⟨0, rfl, by omega, Nat.zero_le _⟩
  case round =>
    obtain ⟨k, rfl, hk, HP⟩ := hrel
    have i0 : (0 : Int) ≤ (k : Int) := by omega
    by_cases hlt : k < n
    · have i1 : (k : Int) < (n : Int) := by omega
      obtain ⟨W, hW⟩ : ∃ W, Ws[k]? = some W := ⟨Ws[k]'(by rw [HN.out]; exact hlt), by simp [HN.out, hlt]⟩
      obtain ⟨gr, cap, hv, _, _, _, _, e0, e1, _, _⟩ := HH.out.at_ HN.out hW
      cases hv
      have HW := Lib.hid hW
      clear hW
      by_cases h1 : W.f = f
      · by_cases h2 : W.t = t
        · have hp : posW Ws f t = k := by
            rcases Nat.lt_or_ge k (posW Ws f t) with h' | h'
            · exact absurd ⟨h1, h2⟩ (pos_before h' HW.out)
            · exact Nat.le_antisymm h' HP.out
          have HR : Hid (V = (k : Int)) := by
            show V = _
            rw [← HV.out, wayV, hp, if_pos (by rw [HN.out]; exact hlt)]
          rw [h1] at e0
          rw [h2] at e1
          clear h1 h2 hp
          go_wp2_with fail
          go_ret
          exact ⟨ret_int HR.out.symm, rfl⟩
        · have HQ : Hid (k + 1 ≤ posW Ws f t) := by
            show k + 1 ≤ posW Ws f t
            rcases Nat.lt_or_ge k (posW Ws f t) with h' | h'
            · exact h'
            · exfalso
              have he : posW Ws f t = k := Nat.le_antisymm h' HP.out
              obtain ⟨W', q1, q2, _⟩ := pos_at (Ws := Ws) (f := f) (t := t) (by rw [he, HN.out]; exact hlt)
              rw [he, HW.out] at q1
              cases q1
              exact h2 q2.2
          rw [h1] at e0
          have j1 : (W.t == t) = false := by simp [h2]
          obtain ⟨x, hx⟩ : ∃ x, W.t = x := ⟨_, rfl⟩
          rw [hx] at e1 j1 h2
          clear h1 hx
          go_wp2_with fail
          go_round
          case rel => exact ⟨k + 1, by go_num, by omega, HQ.out⟩
          case measure => simp [intOf]; omega
      · have HQ : Hid (k + 1 ≤ posW Ws f t) := by
          show k + 1 ≤ posW Ws f t
          rcases Nat.lt_or_ge k (posW Ws f t) with h' | h'
          · exact h'
          · exfalso
            have he : posW Ws f t = k := Nat.le_antisymm h' HP.out
            obtain ⟨W', q1, q2, _⟩ := pos_at (Ws := Ws) (f := f) (t := t) (by rw [he, HN.out]; exact hlt)
            rw [he, HW.out] at q1
            cases q1
            exact h1 q2.1
        have j1 : (W.f == f) = false := by simp [h1]
        obtain ⟨x, hx⟩ : ∃ x, W.f = x := ⟨_, rfl⟩
        rw [hx] at e0 j1 h1
        clear hx
        go_wp2_with fail
        go_round
        case rel => exact ⟨k + 1, by go_num, by omega, HQ.out⟩
        case measure => simp [intOf]; omega
    · have i1 : ¬ ((k : Int) < (n : Int)) := by omega
      have HR : Hid (V = -1) := by
        show V = _
        rw [← HV.out, wayV, if_neg]
        have := HP.out
        have h3 := pos_le Ws f t
        rw [HN.out] at h3 ⊢
        omega
      go_wp2_with fail
      go_ret
      exact ⟨ret_int HR.out.symm, rfl⟩

theorem way_yes {f t : Int} (h : posW Ws f t < Ws.length) : wayV Ws f t = (posW Ws f t : Int) := by rw [wayV, if_pos h]
theorem way_no {f t : Int} (h : ¬ posW Ws f t < Ws.length) : wayV Ws f t = -1 := by rw [wayV, if_neg h]
theorem look_no {f t : Int} (h : ¬ posW Ws f t < Ws.length) : lookW Ws f t = [] := pos_none (by have := pos_le Ws f t; omega)

set_option maxHeartbeats 2000000 in
theorem rcount_is (f t : Int) (w : World) (h : IsRefN w g F L c) (hc : c ≤ 1000000) :
    Calls Try.prog 23 #[.pointer (some ⟨g, 0, none⟩), .int .i64 f, .int .i64 t] w fun e w' => e = .returned (.int .i64 ((L.at_ f t).length : Nat)) ∧ w = w' := by
  obtain ⟨vL, Ws, h, hl, hk⟩ := h
  rw [← hk]
  have HW := Lib.hid (rway_is f t w h (by omega))
  by_cases hp : posW Ws f t < Ws.length
  · rw [way_yes hp] at HW
    obtain ⟨W, hW, _, hlk⟩ := pos_at hp
    obtain ⟨p, hpp⟩ : ∃ p, posW Ws f t = p := ⟨_, rfl⟩
    rw [hpp] at HW hW hp
    obtain ⟨gr, cap, hv, hnc, hcm, hpn, _, _, _, e2, _⟩ := h.at_ rfl hW
    obtain ⟨n, hn⟩ : ∃ n, Ws.length = n := ⟨_, rfl⟩
    have c0 := h.c0
    rw [hv, hn] at c0
    obtain ⟨A, cc, hWv, _, _, _, _, _⟩ := own_val (h.way W (List.mem_of_getElem? hW))
    obtain ⟨m, hm⟩ : ∃ m, W.ps.length = m := ⟨_, rfl⟩
    rw [hWv, hm] at e2
    have hml : (lookW Ws f t).length = m := by rw [hlk, WayD.msgs, List.length_map, hm]
    rw [hml]
    have i1 : (0 : Int) ≤ (p : Int) := by omega
    have i2 : (p : Int) < (n : Int) := by omega
    have i3 : ¬ ((p : Int) < 0) := by omega
    clear hk h hl hc hp hW hlk hpp hv hnc hcm hpn hn hWv hm hml
    go_enter Try.func23, Try.ntmps23
    go_wp2_with fail
    refine HW.out.mono ?_
    rintro e w' ⟨rfl, rfl⟩
    go_wp2_with fail
    go_ret
    exact ⟨rfl, rfl⟩
  · rw [way_no hp] at HW
    rw [look_no hp]
    clear hk h hl hc hp
    go_enter Try.func23, Try.ntmps23
    go_wp2_with fail
    refine HW.out.mono ?_
    rintro e w' ⟨rfl, rfl⟩
    go_wp2_with fail
    go_ret
    exact ⟨rfl, rfl⟩
end

theorem info_bs : (Try.prog.info? 30).map (fun i => (i.zero, i.size, i.bytes)) = some (some (.slice none 0 0), 1, 24) := by kernel_rfl

/-- slices of bytes, each a row of its own -/
structure CellsN (w : World) (B : Nat) (v : Value) (ps : List (Value × List Int)) : Prop where
  row : w.ownsRow B 30 1 v ps.length (ps.map Prod.fst)
  inn : ∀ p ∈ ps, w.ownsRow B 5 1 p.1 p.2.length (u8s p.2)
theorem CellsN.below {w w' : World} {B : Nat} {v : Value} {ps : List (Value × List Int)} (h : CellsN w B v ps) (hb : Below w.heap.size w w') : CellsN w' B v ps :=
  ⟨own_below h.row hb, fun p hp => own_below (h.inn p hp) hb⟩
theorem fst_one {ps : List (Value × List Int)} {w : World} {B : Nat} (h : ∀ p ∈ ps, w.ownsRow B 5 1 p.1 p.2.length (u8s p.2)) : ∀ u ∈ ps.map Prod.fst, u.oneCell' = true := fun u hu => by
  obtain ⟨p, hp, rfl⟩ := List.mem_map.1 hu
  obtain ⟨A, c, e, _⟩ := own_slice (h p hp)
  rw [e]; rfl
theorem snd_len {ps : List (Value × List Int)} {l : List (List Int)} {k : Nat} (h : ps.map Prod.snd = l.take k) (hk : k ≤ l.length) : ps.length = k := by
  have := congrArg List.length h
  simpa [Nat.min_eq_left hk] using this

set_option maxRecDepth 100000 in
set_option maxHeartbeats 4000000 in
theorem copyCells_any (A : Option Addr) (cA n : Nat) (ps : List (Value × List Int)) (w : World) (hz : ps.length = n) (hr : Rd w A (ps.map Prod.fst)) (hi : ∀ p ∈ ps, w.ownsRow 0 5 1 p.1 p.2.length (u8s p.2) ∧ p.2.length ≤ 1048576) (hn : n ≤ 1000000) :
    Calls Try.prog 28 #[.slice A n cA] w fun e w' => ∃ v ps', e = .returned v ∧ ps'.map Prod.snd = ps.map Prod.snd ∧ CellsN w' w.heap.size v ps' ∧ Below w.heap.size w w' := by
  have HZ := Lib.hid hz
  have HR := Lib.hid hr
  have HI := Lib.hid hi
  clear hz hr hi
  go_enter Try.func28, Try.ntmps28
  go_wp2_with fail
  go_loopw [3, 4] (fun v i wr => ∃ (k : Nat) (xs : List (Value × List Int)), i = .int .i64 k ∧ k ≤ n ∧ Hid (xs.map Prod.snd = (ps.map Prod.snd).take k) ∧ Hid (CellsN wr w.heap.size v xs) ∧ Below w.heap.size w wr) (fun _ i _ => n - (intOf i).toNat)
  case atStart => exact ⟨0, [], rfl, by omega, rfl, ⟨World.ownsRow_nil _ _ _ _, fun p hp => by simp at hp⟩, Below.refl _ _⟩
  case round =>
    obtain ⟨k, xs, rfl, hk, HP, HC, hb⟩ := hrel
    have i0 : (0 : Int) ≤ (k : Int) := by omega
    have hxl : xs.length = k := snd_len HP.out (by rw [List.length_map, HZ.out]; exact hk)
    have hrow := HC.out.row
    rw [hxl] at hrow
    obtain ⟨AL, cL, rfl, _, _, _, _, _⟩ := own_val hrow
    by_cases hlt : k < n
    · have i1 : (k : Int) < (n : Int) := by omega
      obtain ⟨p, hp⟩ : ∃ p, ps[k]? = some p := ⟨ps[k]'(by rw [HZ.out]; exact hlt), by simp⟩
      obtain ⟨b, off, rfl, _, hcl⟩ := (HR.out.below hb).open_ (by rw [List.length_map, HZ.out]; omega)
      obtain ⟨hpo, hpz⟩ := HI.out p (List.mem_of_getElem? hp)
      obtain ⟨Ap, cp, hv, hpc, hpm, hrd, _, _⟩ := own_val hpo
      have e0 := hcl k p.1 (by rw [List.getElem?_map, hp]; rfl)
      obtain ⟨nd, hnd⟩ : ∃ nd, p.2.length = nd := ⟨_, rfl⟩
      rw [hnd] at hv hpc hpz
      rw [hv] at e0
      have HRD := Lib.hid (hrd.below hb)
      have HND := Lib.hid hnd
      have HP1 : Hid ((ps.map Prod.snd).take (k + 1) = xs.map Prod.snd ++ [p.2]) := by
        show _ = _
        rw [List.take_add_one, List.getElem?_map, hp, HP.out]
        rfl
      have HXL := Lib.hid hxl
      clear hcl hp hpo hv hrd hpm hnd hxl
      go_wp2_with fail
      refine (copyBytes_any Ap cp nd p.2 _ HND.out HRD.out hpc (by omega)).mono ?_
      rintro e w4 ⟨v4, rfl, ho4, hb4⟩
      have ho4b := own_cast ho4 (u8s_length _)
      have hc4 := HC.out.below hb4
      rw [HND.out] at ho4b
      obtain ⟨A4, c4, rfl, _, _, _, _, _⟩ := own_val ho4b
      have hz4 := hb4.size
      have hrow4 := own_cast hc4.row HXL.out
      have HO4 := Lib.hid ho4b
      have HC4 := Lib.hid hc4
      have HR4 := Lib.hid hrow4
      have HB4 := Lib.hid hb4
      clear ho4 ho4b hc4 hrow4 hb4
      clear hrow
      go_wp2_with (at_builtin; refine wpList_app_lies _ rfl _ _ 61 rfl w.heap.size 30 (.slice none 0 0) 24 Try.underlying61 info_bs rfl (by decide) _ k (xs.map Prod.fst) rfl (HR4.out.alloc _) w4.heap.size (.slice A4 nd c4) rfl (cell_new _ _ _) rfl (by omega) (by have := hb.size; simp; omega) ?_)
      intro g6 c6 w6 ho6 hg6 hl6
      have hbA : Below wr.heap.size wr (w4.alloc (.cells #[.slice A4 nd c4] 30)) := HB4.out.alloc hz4 _
      have hrA := HR4.out.alloc (.cells #[.slice A4 nd c4] 30)
      have hb6 : Below w.heap.size w w6 := below_own (hb.trans (hbA.mono hb.size)) hrA hg6 (by have := hb.size; have := hbA.size; omega)
      have hkeep : ∀ (q : Value × List Int) (B : Nat), (w4.alloc (.cells #[.slice A4 nd c4] 30)).ownsRow B 5 1 q.1 q.2.length (u8s q.2) → w6.ownsRow B 5 1 q.1 q.2.length (u8s q.2) := fun q B hq => own_kept hq fun b hb' hlt => hg6.block b hlt fun e => by
        obtain ⟨cur, hc⟩ := own_type hq hb'
        obtain ⟨cur', hc'⟩ := own_type hrA e.symm
        exact ne_type hc hc' (by decide) rfl
      have hcN : CellsN w6 w.heap.size (.slice (some ⟨g6, 0, none⟩) (k + 1) c6) (xs ++ [(.slice A4 nd c4, p.2)]) := by
        refine ⟨?_, fun q hq => ?_⟩
        · rw [List.map_append]
          exact own_cast ho6 (by rw [List.length_append, HXL.out]; rfl)
        · rcases List.mem_append.1 hq with hq | hq
          · exact hkeep q _ (own_below ((HC4.out.inn q hq)) ((Below.refl _ _).alloc (Nat.le_refl _) _))
          · rw [List.mem_singleton] at hq
            subst hq
            have := own_more (own_below HO4.out ((Below.refl w4.heap.size w4).alloc (Nat.le_refl _) (.cells #[.slice A4 nd c4] 30))) hb.size
            exact hkeep (.slice A4 nd c4, p.2) _ (own_cast this HND.out.symm)
      have HCN := Lib.hid hcN
      have HPN : Hid ((xs ++ [((.slice A4 nd c4 : Value), p.2)]).map Prod.snd = (ps.map Prod.snd).take (k + 1)) := by
        show _ = _
        rw [HP1.out, List.map_append]
        rfl
      clear ho6 hg6 hl6 hbA hrA hkeep hcN e0
      go_wp2_with fail
      go_roundw
      case rel => exact ⟨k + 1, _, by go_num, by omega, HPN.out, HCN.out, hb6⟩
      case measure => simp [intOf]; omega
    · obtain rfl : k = n := by omega
      have i1 : ¬ ((k : Int) < (k : Int)) := by omega
      have HPN : Hid (xs.map Prod.snd = ps.map Prod.snd) := by
        show _ = _
        rw [HP.out, List.take_of_length_le (by rw [List.length_map, HZ.out]; omega)]
      clear hrow
      go_wp2_with fail
      go_ret
      exact ⟨_, rfl, _, HPN.out, HC.out, hb⟩

end Go.Proofs.Ytbffaaljommoeaa
