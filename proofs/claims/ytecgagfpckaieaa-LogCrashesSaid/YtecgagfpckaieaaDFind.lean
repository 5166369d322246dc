/-
  Where a file stands: the search of package disk.
-/
import Derived.Test.YtecgagfpckaieaaDData
import Derived.Test.YtecgagfpckaieaaShelf
namespace Go.Proofs.Ytecgagfpckaieaa
open Go.RowKit

set_option maxHeartbeats 1000000 in
theorem closure_any (a s : ByteArray) (v1 v2 : Value) (k : Int) (w : World) :
    Calls Try.prog 53 #[.agg #[.string a, v1, v2, .int .i64 k], .string s] w fun e w' => e = .returned (.int .i64 (cmpN a s)) ∧ Below w.heap.size w w' := by
  go_enter Try.func53, Try.ntmps53
  go_wp2_with (go_at_call 54; refine (Try.strings_Compare _ _ _).mono ?_; rintro e w' ⟨rfl, rfl⟩)
  go_ret
  exact ⟨rfl, (Below.refl _ _).alloc (Nat.le_refl _) _⟩

set_option maxRecDepth 100000 in
set_option maxHeartbeats 4000000 in
theorem search_any (g cap n : Nat) (ms : List MF) (s : ByteArray) (w : World) (hn : ms.length = n) (hn1 : n ≤ 1000000) (hc : ∀ i v, (cellsD ms)[i]? = some v → w.cell? ⟨g, i, none⟩ = some v) (hg : 0 < n → g < w.heap.size) (hr : RiseN (ms.map MF.nm)) :
    Calls Try.prog 52 #[.slice (some ⟨g, 0, none⟩) n cap, .string s, .func (.func 53) #[] #[]] w fun e w' =>
      e = .returned (.tuple #[.int .i64 (posN (ms.map MF.nm) s), .bool (hasN (ms.map MF.nm) s)]) ∧ Below w.heap.size w w' := by
  have HN := Lib.hid hn
  have HC := Lib.hid hc
  have HR := Lib.hid hr
  clear hn hc hr
  go_enter Try.func52, Try.ntmps52
  go_wp2
  go_loopw [9, 10] (fun i j wr => ∃ lo hi : Nat, i = .int .i64 lo ∧ j = .int .i64 hi ∧ lo ≤ hi ∧ hi ≤ n ∧ Hid (∀ k a, k < lo → (ms.map MF.nm)[k]? = some a → ltN a s = true) ∧ Hid (∀ k a, hi ≤ k → (ms.map MF.nm)[k]? = some a → ltN a s = false) ∧ Below w.heap.size w wr) (fun i j _ => ((intOf j) - (intOf i)).toNat)
  case atStart => exact ⟨0, n, rfl, rfl, by omega, by omega, fun k a hk => by omega, fun k a hk ha => by
    have := (List.getElem?_eq_some_iff.1 ha).1
    rw [List.length_map, HN.out] at this
    omega, Below.refl _ _⟩
  case round =>
    obtain ⟨lo, hi, rfl, rfl, hlh, hin, HA, HB, hb⟩ := hrel
    by_cases hlt : lo < hi
    · obtain ⟨m, hm⟩ : ∃ m, ms[(lo + hi) / 2]? = some m := ⟨_, List.getElem?_eq_getElem (by rw [HN.out]; omega)⟩
      have hgl := hg (by omega)
      have k0 : wr.cell? ⟨g, (lo + hi) / 2 * 4, none⟩ = some (.string m.nm) := (hb.cell (p := ⟨g, (lo + hi) / 2 * 4, none⟩) hgl).trans (HC.out _ _ (cellsD_at hm (j := 0) rfl))
      have k1 : wr.cell? ⟨g, (lo + hi) / 2 * 4 + 1, none⟩ = some m.vV := (hb.cell (p := ⟨g, (lo + hi) / 2 * 4 + 1, none⟩) hgl).trans (HC.out _ _ (cellsD_at hm (j := 1) rfl))
      have k2 : wr.cell? ⟨g, (lo + hi) / 2 * 4 + 2, none⟩ = some m.dV := (hb.cell (p := ⟨g, (lo + hi) / 2 * 4 + 2, none⟩) hgl).trans (HC.out _ _ (cellsD_at hm (j := 2) rfl))
      have k3 : wr.cell? ⟨g, (lo + hi) / 2 * 4 + 3, none⟩ = some (.int .i64 m.same) := (hb.cell (p := ⟨g, (lo + hi) / 2 * 4 + 3, none⟩) hgl).trans (HC.out _ _ (cellsD_at hm (j := 3) rfl))
      have HM := Lib.hid hm
      clear hm
      have hcr := cmpN_range m.nm s
      cases hls : ltN m.nm s with
      | true =>
        have hc0 : cmpN m.nm s < 0 := by have := cmpN_lt m.nm s; rw [hls] at this; simpa using this
        have HLS := Lib.hid hls
        clear hls
        go_wp2_with (go_at_call 53; refine (closure_any _ _ _ _ _ _).mono ?_; rintro e w' ⟨rfl, hb1⟩)
        go_roundw
        case rel =>
          refine ⟨(lo + hi) / 2 + 1, hi, ?_, rfl, by omega, hin, fun k a hk ha => ?_, HB.out, hb.trans (hb1.mono hb.size)⟩
          · rw [show ((lo : Int) + (hi : Int)) / 2 + 1 = (((lo + hi) / 2 + 1 : Nat) : Int) by omega]
          · rcases Nat.lt_or_ge k ((lo + hi) / 2) with h2 | h2
            · exact ltN_trans (rise_at HR.out h2 ha (by rw [List.getElem?_map, HM.out]; rfl)) HLS.out
            · have : k = (lo + hi) / 2 := by omega
              subst this
              rw [List.getElem?_map, HM.out] at ha
              cases ha
              exact HLS.out
        case measure => simp [intOf]; omega
      | false =>
        have hc0 : ¬ (cmpN m.nm s < 0) := by have := cmpN_lt m.nm s; rw [hls] at this; simpa using this
        have HLS := Lib.hid hls
        clear hls
        go_wp2_with (go_at_call 53; refine (closure_any _ _ _ _ _ _).mono ?_; rintro e w' ⟨rfl, hb1⟩)
        go_roundw
        case rel =>
          refine ⟨lo, (lo + hi) / 2, rfl, ?_, by omega, by omega, HA.out, fun k a hk ha => ?_, hb.trans (hb1.mono hb.size)⟩
          · rw [show ((lo : Int) + (hi : Int)) / 2 = (((lo + hi) / 2 : Nat) : Int) by omega]
          · rcases Nat.lt_or_ge ((lo + hi) / 2) k with h2 | h2
            · have h3 := rise_at HR.out h2 (show (ms.map MF.nm)[(lo + hi) / 2]? = some m.nm by rw [List.getElem?_map, HM.out]; rfl) ha
              cases hak : ltN a s with
              | false => rfl
              | true => have := ltN_trans h3 hak; rw [HLS.out] at this; cases this
            · have : k = (lo + hi) / 2 := by omega
              subst this
              rw [List.getElem?_map, HM.out] at ha
              cases ha
              exact HLS.out
        case measure => simp [intOf]; omega
    · obtain rfl : lo = hi := by omega
      have i0 : ¬ ((lo : Int) < (lo : Int)) := by omega
      clear hlt hlh
      have hp : lo = posN (ms.map MF.nm) s := posN_unique (by rw [List.length_map, HN.out]; exact hin) (fun k a hk ha => HA.out k a hk ha) (fun a ha => HB.out lo a (Nat.le_refl _) ha)
      have HP := Lib.hid hp
      clear hp
      by_cases hn2 : lo < n
      · obtain ⟨m, hm⟩ : ∃ m, ms[lo]? = some m := ⟨_, List.getElem?_eq_getElem (by rw [HN.out]; omega)⟩
        have hgl := hg (by omega)
        have k0 : wr.cell? ⟨g, lo * 4, none⟩ = some (.string m.nm) := (hb.cell (p := ⟨g, lo * 4, none⟩) hgl).trans (HC.out _ _ (cellsD_at hm (j := 0) rfl))
        have k1 : wr.cell? ⟨g, lo * 4 + 1, none⟩ = some m.vV := (hb.cell (p := ⟨g, lo * 4 + 1, none⟩) hgl).trans (HC.out _ _ (cellsD_at hm (j := 1) rfl))
        have k2 : wr.cell? ⟨g, lo * 4 + 2, none⟩ = some m.dV := (hb.cell (p := ⟨g, lo * 4 + 2, none⟩) hgl).trans (HC.out _ _ (cellsD_at hm (j := 2) rfl))
        have k3 : wr.cell? ⟨g, lo * 4 + 3, none⟩ = some (.int .i64 m.same) := (hb.cell (p := ⟨g, lo * 4 + 3, none⟩) hgl).trans (HC.out _ _ (cellsD_at hm (j := 3) rfl))
        have i1 : (lo : Int) < (n : Int) := by omega
        have hcr := cmpN_range m.nm s
        have hh : Hid (hasN (ms.map MF.nm) s = (cmpN m.nm s == 0)) := by
          show hasN (ms.map MF.nm) s = (cmpN m.nm s == 0)
          rw [hasN, ← HP.out, List.getElem?_map, hm]
          simp only [Option.map_some, Option.some.injEq]
          rw [Bool.eq_iff_iff]
          simp only [decide_eq_true_eq, beq_iff_eq]
          exact (cmpN_eq m.nm s).symm
        clear hm
        go_wp2_with (go_at_call 53; refine (closure_any _ _ _ _ _ _).mono ?_; rintro e w' ⟨rfl, hb1⟩)
        go_ret2
        refine ⟨?_, hb.trans (hb1.mono hb.size)⟩
        rw [hh.out, ← HP.out]
        rfl
      · have i1 : ¬ ((lo : Int) < (n : Int)) := by omega
        have hh : Hid (hasN (ms.map MF.nm) s = false) := by
          show hasN (ms.map MF.nm) s = false
          rw [hasN, ← HP.out, List.getElem?_eq_none (by rw [List.length_map, HN.out]; omega)]
          rfl
        go_wp2_with (go_at_call 53; refine (closure_any _ _ _ _ _ _).mono ?_; rintro e w' ⟨rfl, hb1⟩)
        go_ret2
        refine ⟨?_, hb⟩
        rw [hh.out, ← HP.out]
        rfl

set_option maxHeartbeats 1000000 in
theorem search_none (s : ByteArray) (w : World) (c : Nat) :
    Calls Try.prog 52 #[.slice none 0 c, .string s, .func (.func 53) #[] #[]] w fun e w' =>
      e = .returned (.tuple #[.int .i64 (0 : Nat), .bool false]) ∧ Below w.heap.size w w' := by
  go_enter Try.func52, Try.ntmps52
  go_wp2
  go_loopw [9, 10] (fun i j wr => i = .int .i64 0 ∧ j = .int .i64 0 ∧ wr = w) (fun i j _ => ((intOf j) - (intOf i)).toNat)
  case atStart => exact ⟨rfl, rfl, rfl⟩
  case round =>
    obtain ⟨rfl, rfl, rfl⟩ := hrel
    go_wp2
    go_ret2
    exact ⟨rfl, Below.refl _ _⟩

/-- (*Disk).find -/
theorem find_any {F : Nat → Prop} {D : PD} {vL : Value} {l : Int} {ms : List MF} (g : Nat) (s : ByteArray) (w : World) (h : DiskIn w g F D vL l ms) :
    Calls Try.prog 43 #[.pointer (some ⟨g, 0, none⟩), .string s] w fun e w' => e = .returned (.tuple #[.int .i64 (D.pos s), .bool (D.has s)]) ∧ Below w.heap.size w w' := by
  have c0 := h.c0
  have hp : D.pos s = posN (ms.map MF.nm) s := by rw [PD.pos, h.nmL]
  have hh : D.has s = hasN (ms.map MF.nm) s := by rw [PD.has, h.nmL]
  rw [hp, hh]
  obtain ⟨p, hp1⟩ : ∃ p, p = posN (ms.map MF.nm) s := ⟨_, rfl⟩
  obtain ⟨b, hb1⟩ : ∃ b, b = hasN (ms.map MF.nm) s := ⟨_, rfl⟩
  have hf := h.few
  have hcon : Calls Try.prog 52 #[vL, .string s, .func (.func 53) #[] #[]] w fun e w' => e = .returned (.tuple #[.int .i64 p, .bool b]) ∧ Below w.heap.size w w' := by
    rw [hp1, hb1]
    rcases Nat.eq_zero_or_pos ms.length with h0 | h0
    · have hms : ms = [] := List.eq_nil_of_length_eq_zero h0
      subst hms
      obtain ⟨A, c, rfl, _, _, _⟩ := h.slice (n := 0) rfl
      rcases h.row.2 with ⟨hv, _⟩ | ⟨gr, cap, cur, hv, hb, hg, hnc, hcm, hcs, ht⟩
      · cases hv
        exact search_none s w 0
      · simp only [List.length_nil, Value.slice.injEq, true_and] at hv
        obtain ⟨rfl, rfl⟩ := hv
        exact search_any gr c 0 [] s w rfl (by omega) (fun i v hv => by simp [cellsD] at hv) (fun h => by omega) rise_nil
    · obtain ⟨gr, cap, rfl, hnc, hcm, hne, hF, _⟩ := h.rowAt h0
      exact search_any gr cap ms.length ms s w rfl (by omega) (fun i v hv => by have := h.row.cells (g := gr) rfl i v hv; rwa [Addr.add_lit, Nat.zero_add] at this) (fun _ => h.lt _ hF) (by rw [← h.nmL]; exact h.rise)
  have HC := Lib.hid hcon
  rw [← hp1, ← hb1]
  clear hcon hp hh hp1 hb1 h hf
  go_enter Try.func43, Try.ntmps43
  go_wp2_with (go_at_call 52; refine HC.out.mono ?_; rintro e w' ⟨rfl, hb⟩)
  go_ret2
  exact ⟨rfl, hb⟩

end Go.Proofs.Ytecgagfpckaieaa
