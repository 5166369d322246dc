/-
  slices.Insert of one element into a row of pairs that has no room.
-/
import Derived.Test.YtaccmjgnggepjaaKZC
import Derived.Test.YtaccmjgnggepjaaKZA
import Derived.Test.YtaccmjgnggepjaaShelf
namespace Go.Proofs.Ytaccmjgnggepjaa
open Go.RowKit

set_option maxRecDepth 100000 in
set_option maxHeartbeats 8000000 in
theorem insert_growP (B g n i gx : Nat) (xs us : List Value) (w : World) (h : w.ownsRow B 65 2 (.slice (some ⟨g, 0, none⟩) n n) n xs) (hB : B ≤ w.heap.size) (hi : i < n) (hn : n ≤ 1000000) (h1 : ∀ v ∈ xs, v.oneCell' = true)
    (hu : us.length = 2) (hgx : w.heap[gx]? = some (.cells us.toArray 65 (0, 0))) (hu1 : ∀ v ∈ us, v.oneCell' = true) :
    Calls Try.prog 69 #[.slice (some ⟨g, 0, none⟩) n n, .int .i64 i, .slice (some ⟨gx, 0, none⟩) 1 1] w fun e w' =>
      ∃ G, e = .returned (.slice (some ⟨w.heap.size, 0, none⟩) (n + 1) G) ∧ w'.ownsRow B 65 2 (.slice (some ⟨w.heap.size, 0, none⟩) (n + 1) G) (n + 1) (putInP xs us i) ∧ w.grownBy w' none := by
  obtain ⟨G, w1, w2, w3, hG1, hG2, hap, hcp1, hcp2, hown, hgr⟩ := grow_factsP B g n i gx xs us w h hB hi hn h1 hu hgx hu1
  have HA := Lib.hid hap
  have H1 := Lib.hid hcp1
  have H2 := Lib.hid hcp2
  have HO := Lib.hid hown
  unfold maxLen at hG2
  clear hap hcp1 hcp2 hown h hgx hu hu1 h1 hB
  obtain ⟨N, hN⟩ : ∃ N, N = w.heap.size := ⟨_, rfl⟩
  rw [← hN] at HA H1 H2 HO ⊢
  clear hN
  have e1 : (0 : Int) ≤ (i : Int) := by omega
  have e2 : (i : Int) ≤ (n : Int) := by omega
  have e3 : ¬ ((i : Int) = (n : Int)) := by omega
  have e4 : (n : Int) < (n : Int) + 1 := by omega
  have e6 : ((i : Int) + 1).toNat = i + 1 := by omega
  have e7 : (0 : Int) ≤ (i : Int) + 1 := by omega
  have e8 : (i : Int) + 1 ≤ (n : Int) + 1 := by omega
  have e9 : (i : Int) ≤ (n : Int) + 1 := by omega
  have f1 : ¬ (n = i) := by omega
  have f2 : ¬ (G = i) := by omega
  have f3 : ¬ (G = i + 1) := by omega
  have f4 : i ≤ n + 1 := by omega
  have f5 : ((n : Int) + 1).toNat = n + 1 := by omega
  have f7 : i + 1 ≤ n + 1 := by omega
  have f8 : i ≤ n := by omega
  go_enter Try.func69, Try.ntmps69
  go_wp2_with (first | (at_builtin; refine wpList_app_run (o := ⟨some 40, _, _, _, _, _⟩) _ rfl (.tmp 34) (.tmp 39) 34 3 rfl rfl rfl (HA.out _) ?_) | refine wpList_copy_run (o := ⟨some 45, _, _, _, _, _⟩) _ rfl (.tmp 43) (.tmp 44) 34 34 rfl rfl rfl (H1.out _ _) ?_)
  have g1 : IntKind.i64.wrap ((i : Int) + 1) = (i : Int) + 1 := IntWalk.i64_in _ (by omega)
  go_still_tail 8, (by kernel_rfl)
  change wpList _ _ _ _ _ w2.drew
  go_wp2_with (first | refine wpList_copy_run (o := ⟨some 54, _, _, _, _, _⟩) _ rfl (.tmp 50) (.tmp 53) 34 34 rfl rfl rfl (H2.out _ _ _) ?_)
  go_ret
  exact ⟨G, rfl, HO.out, hgr⟩

end Go.Proofs.Ytaccmjgnggepjaa
/-
  slices.Insert of one element at a row's end.
-/
namespace Go.Proofs.Ytaccmjgnggepjaa
open Go.RowKit

set_option maxRecDepth 100000 in
set_option maxHeartbeats 4000000 in
theorem insert_endP (B gx n : Nat) (v : Value) (xs us : List Value) (w : World) (h : w.ownsRow B 65 2 v n xs) (hB : B ≤ w.heap.size) (hn : n ≤ 1000000)
    (hu : us.length = 2) (hgx : w.heap[gx]? = some (.cells us.toArray 65 (0, 0))) (hu1 : ∀ v ∈ us, v.oneCell' = true) :
    Calls Try.prog 69 #[v, .int .i64 n, .slice (some ⟨gx, 0, none⟩) 1 1] w fun e w' =>
      ∃ g' c', e = .returned (.slice (some ⟨g', 0, none⟩) (n + 1) c') ∧ w'.ownsRow B 65 2 (.slice (some ⟨g', 0, none⟩) (n + 1) c') (n + 1) (xs ++ us) ∧ w.grownBy w' v.ownBlock ∧ (v.ownBlock = some g' ∨ g' = w.heap.size) := by
  obtain ⟨i0, hi0, hz0, hz1, hz2⟩ := info_parts info_pair
  have hcell : ∀ j y, us[j]? = some y → w.cell? ((⟨gx, 0, none⟩ : Addr).add j) = some y := fun j y hj => by
    rw [Addr.add_lit, cell_of_row _ _ _ _ _ _ hgx]; simpa using hj
  have HU := Lib.hid hcell
  have HL := Lib.hid hu
  have HO := Lib.hid hu1
  clear hcell hu hgx hu1
  have hown := h
  obtain ⟨A, c, rfl, hnc, hcm, _, _, hxl⟩ := ownS_slice h
  have HX := Lib.hid hxl
  have HW := Lib.hid hown
  clear h hown hxl
  unfold maxLen at hcm
  have e1 : (0 : Int) ≤ (n : Int) := by omega
  by_cases hc : c = n
  all_goals rcases A with _ | A
  all_goals
    go_enter Try.func69, Try.ntmps69
    go_wp2_with (at_builtin; refine wpList_append_lies (o := ⟨some 25, _, _, _, _, _⟩) _ rfl (.tmp 23) (.tmp 24) 34 rfl B 65 i0 zpair 2 32 Try.underlying34 hi0 hz0 hz1 hz2 rfl (by decide) (.slice _ n c) n xs rfl HW.out ⟨gx, 0, none⟩ 1 1 us rfl HL.out HU.out HO.out (by decide) (by unfold maxLen; omega) (by omega) hB _ rfl ?_)
    intro g' c' w' k1 k2 k3 k4
    go_wp2
    go_ret
    exact ⟨g', c', rfl, k1, k2, k3⟩

end Go.Proofs.Ytaccmjgnggepjaa
/-
  slices.Insert of one element into a row of pairs, anywhere.
-/
namespace Go.Proofs.Ytaccmjgnggepjaa
open Go.RowKit

theorem putIn_endP {xs us : List Value} {n : Nat} (h : xs.length = n * 2) : putInP xs us n = xs ++ us := by
  rw [putInP, List.take_of_length_le (by omega), List.drop_of_length_le (by omega), List.append_nil]

theorem insert_anyP (B gx n i : Nat) (v : Value) (xs us : List Value) (w : World) (h : w.ownsRow B 65 2 v n xs) (hB : B ≤ w.heap.size) (hi : i ≤ n) (hn : n ≤ 1000000) (h1 : ∀ v ∈ xs, v.oneCell' = true)
    (hu : us.length = 2) (hgx : w.heap[gx]? = some (.cells us.toArray 65 (0, 0))) (hu1 : ∀ v ∈ us, v.oneCell' = true) (hne : v.ownBlock ≠ some gx) :
    Calls Try.prog 69 #[v, .int .i64 i, .slice (some ⟨gx, 0, none⟩) 1 1] w fun e w' =>
      ∃ v', e = .returned v' ∧ w'.ownsRow B 65 2 v' (n + 1) (putInP xs us i) ∧ w.grownBy w' v.ownBlock ∧ (v'.ownBlock = v.ownBlock ∨ v'.ownBlock = some w.heap.size) := by
  rcases Nat.lt_or_ge i n with hlt | hge
  · rcases h.2 with ⟨rfl, h0⟩ | ⟨g, cap, cur, rfl, hb, hg, hnc, hcm, hcs, ht⟩
    · omega
    · have hgg : gx ≠ g := fun e => hne (by rw [e]; rfl)
      rcases Nat.lt_or_ge n cap with hroom | hfull
      · refine (insert_roomP B g cap n i gx xs us w h hlt (by omega) hn h1 hu hgx hu1 hgg).mono ?_
        rintro e w' ⟨rfl, h2, h3⟩
        exact ⟨_, rfl, h2, h3, .inl rfl⟩
      · obtain rfl : cap = n := by omega
        refine (insert_growP B g cap i gx xs us w h hB hlt hn h1 hu hgx hu1).mono ?_
        rintro e w' ⟨G, rfl, h2, h3⟩
        exact ⟨_, rfl, h2, ⟨h3.os, h3.tape, h3.output, h3.size, fun k hk _ => h3.block k hk (by simp)⟩, .inr rfl⟩
  · obtain rfl : i = n := by omega
    refine (insert_endP B gx i v xs us w h hB hn hu hgx hu1).mono ?_
    rintro e w' ⟨g', c', rfl, h2, h3, h4⟩
    exact ⟨_, rfl, by rw [putIn_endP h.1]; exact h2, h3, h4.elim (fun h => .inl h.symm) (fun h => .inr (by rw [h]; rfl))⟩

end Go.Proofs.Ytaccmjgnggepjaa
/-
  Where a pair stands: the search of package keep.
-/
namespace Go.Proofs.Ytaccmjgnggepjaa
open Go.RowKit

set_option maxHeartbeats 1000000 in
theorem closureK (a s : ByteArray) (v1 : Value) (w : World) :
    Calls Try.prog 51 #[.agg #[.string a, v1], .string s] w fun e w' => e = .returned (.int .i64 (cmpN a s)) ∧ Below w.heap.size w w' := by
  go_enter Try.func51, Try.ntmps51
  go_wp2_with (go_at_call 52; refine (Try.strings_Compare _ _ _).mono ?_; rintro e w' ⟨rfl, rfl⟩)
  go_ret
  exact ⟨rfl, (Below.refl _ _).alloc (Nat.le_refl _) _⟩

set_option maxRecDepth 100000 in
set_option maxHeartbeats 4000000 in
theorem searchK (g cap n : Nat) (ms : List PP) (s : ByteArray) (w : World) (hn : ms.length = n) (hn1 : n ≤ 1000000) (hc : ∀ i v, (cellsP ms)[i]? = some v → w.cell? ⟨g, i, none⟩ = some v) (hg : 0 < n → g < w.heap.size) (hr : RiseN (ms.map Prod.fst)) :
    Calls Try.prog 50 #[.slice (some ⟨g, 0, none⟩) n cap, .string s, .func (.func 51) #[] #[]] w fun e w' =>
      e = .returned (.tuple #[.int .i64 (posN (ms.map Prod.fst) s), .bool (hasN (ms.map Prod.fst) s)]) ∧ Below w.heap.size w w' := by
  have HN := Lib.hid hn
  have HC := Lib.hid hc
  have HR := Lib.hid hr
  clear hn hc hr
  go_enter Try.func50, Try.ntmps50
  go_wp2
  go_loopw [9, 10] (fun i j wr => ∃ lo hi : Nat, i = .int .i64 lo ∧ j = .int .i64 hi ∧ lo ≤ hi ∧ hi ≤ n ∧ Hid (∀ k a, k < lo → (ms.map Prod.fst)[k]? = some a → ltN a s = true) ∧ Hid (∀ k a, hi ≤ k → (ms.map Prod.fst)[k]? = some a → ltN a s = false) ∧ Below w.heap.size w wr) (fun i j _ => ((intOf j) - (intOf i)).toNat)
  case atStart => exact ⟨0, n, rfl, rfl, by omega, by omega, fun k a hk => by omega, fun k a hk ha => by
    have := (List.getElem?_eq_some_iff.1 ha).1
    rw [List.length_map, HN.out] at this
    omega, Below.refl _ _⟩
  case round =>
    obtain ⟨lo, hi, rfl, rfl, hlh, hin, HA, HB, hb⟩ := hrel
    by_cases hlt : lo < hi
    · obtain ⟨m, hm⟩ : ∃ m, ms[(lo + hi) / 2]? = some m := ⟨_, List.getElem?_eq_getElem (by rw [HN.out]; omega)⟩
      have hgl := hg (by omega)
      have k0 : wr.cell? ⟨g, (lo + hi) / 2 * 2, none⟩ = some (.string m.1) := (hb.cell (p := ⟨g, (lo + hi) / 2 * 2, none⟩) hgl).trans (HC.out _ _ (cellsP_at hm (j := 0) rfl))
      have k1 : wr.cell? ⟨g, (lo + hi) / 2 * 2 + 1, none⟩ = some (.string m.2) := (hb.cell (p := ⟨g, (lo + hi) / 2 * 2 + 1, none⟩) hgl).trans (HC.out _ _ (cellsP_at hm (j := 1) rfl))
      have HM := Lib.hid hm
      clear hm
      have hcr := cmpN_range m.1 s
      cases hls : ltN m.1 s with
      | true =>
        have hc0 : cmpN m.1 s < 0 := by have := cmpN_lt m.1 s; rw [hls] at this; simpa using this
        have HLS := Lib.hid hls
        clear hls
        go_wp2_with (go_at_call 51; refine (closureK _ _ _ _).mono ?_; rintro e w' ⟨rfl, hb1⟩)
        go_roundw
        case rel =>
          refine ⟨(lo + hi) / 2 + 1, hi, ?_, rfl, by omega, hin, fun k a hk ha => ?_, HB.out, hb.trans (hb1.mono hb.size)⟩
          · rw [show ((lo : Int) + (hi : Int)) / 2 + 1 = (((lo + hi) / 2 + 1 : Nat) : Int) by omega]
          · rcases Nat.lt_or_ge k ((lo + hi) / 2) with h2 | h2
            · exact ltN_trans (rise_at HR.out h2 ha (by rw [List.getElem?_map, HM.out]; rfl)) HLS.out
            · have : k = (lo + hi) / 2 := by omega
              subst this
              rw [List.getElem?_map, HM.out] at ha
              cases ha
              exact HLS.out
        case measure => simp [intOf]; omega
      | false =>
        have hc0 : ¬ (cmpN m.1 s < 0) := by have := cmpN_lt m.1 s; rw [hls] at this; simpa using this
        have HLS := Lib.hid hls
        clear hls
        go_wp2_with (go_at_call 51; refine (closureK _ _ _ _).mono ?_; rintro e w' ⟨rfl, hb1⟩)
        go_roundw
        case rel =>
          refine ⟨lo, (lo + hi) / 2, rfl, ?_, by omega, by omega, HA.out, fun k a hk ha => ?_, hb.trans (hb1.mono hb.size)⟩
          · rw [show ((lo : Int) + (hi : Int)) / 2 = (((lo + hi) / 2 : Nat) : Int) by omega]
          · rcases Nat.lt_or_ge ((lo + hi) / 2) k with h2 | h2
            · have h3 := rise_at HR.out h2 (show (ms.map Prod.fst)[(lo + hi) / 2]? = some m.1 by rw [List.getElem?_map, HM.out]; rfl) ha
              cases hak : ltN a s with
              | false => rfl
              | true => have := ltN_trans h3 hak; rw [HLS.out] at this; cases this
            · have : k = (lo + hi) / 2 := by omega
              subst this
              rw [List.getElem?_map, HM.out] at ha
              cases ha
              exact HLS.out
        case measure => simp [intOf]; omega
    · obtain rfl : lo = hi := by omega
      have i0 : ¬ ((lo : Int) < (lo : Int)) := by omega
      clear hlt hlh
      have hp : lo = posN (ms.map Prod.fst) s := posN_unique (by rw [List.length_map, HN.out]; exact hin) (fun k a hk ha => HA.out k a hk ha) (fun a ha => HB.out lo a (Nat.le_refl _) ha)
      have HP := Lib.hid hp
      clear hp
      by_cases hn2 : lo < n
      · obtain ⟨m, hm⟩ : ∃ m, ms[lo]? = some m := ⟨_, List.getElem?_eq_getElem (by rw [HN.out]; omega)⟩
        have hgl := hg (by omega)
        have k0 : wr.cell? ⟨g, lo * 2, none⟩ = some (.string m.1) := (hb.cell (p := ⟨g, lo * 2, none⟩) hgl).trans (HC.out _ _ (cellsP_at hm (j := 0) rfl))
        have k1 : wr.cell? ⟨g, lo * 2 + 1, none⟩ = some (.string m.2) := (hb.cell (p := ⟨g, lo * 2 + 1, none⟩) hgl).trans (HC.out _ _ (cellsP_at hm (j := 1) rfl))
        have i1 : (lo : Int) < (n : Int) := by omega
        have hcr := cmpN_range m.1 s
        have hh : Hid (hasN (ms.map Prod.fst) s = (cmpN m.1 s == 0)) := by
          show hasN (ms.map Prod.fst) s = (cmpN m.1 s == 0)
          rw [hasN, ← HP.out, List.getElem?_map, hm]
          simp only [Option.map_some, Option.some.injEq]
          rw [Bool.eq_iff_iff]
          simp only [decide_eq_true_eq, beq_iff_eq]
          exact (cmpN_eq m.1 s).symm
        clear hm
        go_wp2_with (go_at_call 51; refine (closureK _ _ _ _).mono ?_; rintro e w' ⟨rfl, hb1⟩)
        go_ret2
        refine ⟨?_, hb.trans (hb1.mono hb.size)⟩
        rw [hh.out, ← HP.out]
        rfl
      · have i1 : ¬ ((lo : Int) < (n : Int)) := by omega
        have hh : Hid (hasN (ms.map Prod.fst) s = false) := by
          show hasN (ms.map Prod.fst) s = false
          rw [hasN, ← HP.out, List.getElem?_eq_none (by rw [List.length_map, HN.out]; omega)]
          rfl
        go_wp2_with (go_at_call 51; refine (closureK _ _ _ _).mono ?_; rintro e w' ⟨rfl, hb1⟩)
        go_ret2
        refine ⟨?_, hb⟩
        rw [hh.out, ← HP.out]
        rfl

set_option maxHeartbeats 1000000 in
theorem searchK_none (s : ByteArray) (w : World) (c : Nat) :
    Calls Try.prog 50 #[.slice none 0 c, .string s, .func (.func 51) #[] #[]] w fun e w' =>
      e = .returned (.tuple #[.int .i64 (0 : Nat), .bool false]) ∧ Below w.heap.size w w' := by
  go_enter Try.func50, Try.ntmps50
  go_wp2
  go_loopw [9, 10] (fun i j wr => i = .int .i64 0 ∧ j = .int .i64 0 ∧ wr = w) (fun i j _ => ((intOf j) - (intOf i)).toNat)
  case atStart => exact ⟨rfl, rfl, rfl⟩
  case round =>
    obtain ⟨rfl, rfl, rfl⟩ := hrel
    go_wp2
    go_ret2
    exact ⟨rfl, Below.refl _ _⟩

end Go.Proofs.Ytaccmjgnggepjaa
