/-
  The page's own book: what lies where, and its calls.
-/
import Derived.Test.YtnooippbdfobdaaRows
import Derived.Test.YtnooippbdfobdaaFoot
import Derived.Test.YtnooippbdfobdaaHelp
import Derived.Test.YtnooippbdfobdaaEqs
import Derived.Deep.QuietTactic
import Derived.BigQuiet
import Derived.Outline
import Derived.Deep.RegionLaw
namespace Go.Proofs.Ytnooippbdfobdaa
open Go.RowKit

/-- the number of bytes: the first place where they stand, from 1; or 0 -/
def findB : List (List Int) → List Int → Nat
  | [], _ => 0
  | y :: L, x => if y = x then 1 else match findB L x with | 0 => 0 | n + 1 => n + 2
theorem find_hit {x : List Int} : ∀ {L : List (List Int)} {k : Nat}, L[k]? = some x → (∀ (i : Nat) (y : List Int), i < k → L[i]? = some y → y ≠ x) → findB L x = k + 1
  | [], k, h, _ => by simp at h
  | y :: L, 0, h, _ => by simp at h; simp [findB, h]
  | y :: L, k + 1, h, hn => by
    have h0 : y ≠ x := hn 0 y (by omega) rfl
    have ih := find_hit (L := L) (k := k) (by simpa using h) fun i z hi hz => hn (i + 1) z (by omega) (by simpa using hz)
    simp [findB, h0, ih]
theorem find_miss {x : List Int} : ∀ {L : List (List Int)}, (∀ (i : Nat) (y : List Int), L[i]? = some y → y ≠ x) → findB L x = 0
  | [], _ => rfl
  | y :: L, hn => by
    have h0 : y ≠ x := hn 0 y rfl
    have ih := find_miss (L := L) fun i z hz => hn (i + 1) z (by simpa using hz)
    simp [findB, h0, ih]
theorem find_some {x : List Int} : ∀ {L : List (List Int)} {k : Nat}, findB L x = k + 1 → L[k]? = some x
  | [], k, h => by simp [findB] at h
  | y :: L, k, h => by
    unfold findB at h
    by_cases h0 : y = x
    · rw [if_pos h0] at h
      have : k = 0 := by omega
      subst this
      simp [h0]
    · rw [if_neg h0] at h
      cases hf : findB L x with
      | zero => rw [hf] at h; simp at h
      | succ n =>
        rw [hf] at h
        have : k = n + 1 := by simp at h; omega
        subst this
        simpa using find_some hf
theorem find_le (L : List (List Int)) (x : List Int) : findB L x ≤ L.length := by
  cases h : findB L x with
  | zero => omega
  | succ k =>
    have := find_some h
    rcases Nat.lt_or_ge k L.length with h' | h'
    · omega
    · rw [List.getElem?_eq_none h'] at this; cases this
/-- was it signed? -/
def signedB (S : List (Int × Int)) (who d : Int) : Bool := S.any fun p => p.1 == who && p.2 == d

/-- what a slice of bytes shows, in blocks of F -/
def Elem (w : World) (F : Nat → Prop) (v : Value) (x : List Int) : Prop := ∃ A c, v = .slice A x.length c ∧ x.length ≤ c ∧ Rd w A (u8s x) ∧ ∀ a, A = some a → F a.block

structure RefB (w : World) (g : Nat) (F : Nat → Prop) (L : List (List Int)) (W D : List Int) (vL vW vD : Value) (es : List Value) : Prop where
  c0 : w.cell? ⟨g, 0, none⟩ = some vL
  c1 : w.cell? ⟨g, 1, none⟩ = some vW
  c2 : w.cell? ⟨g, 2, none⟩ = some vD
  f0 : w.frozen? ⟨g, 0, none⟩ = false
  f1 : w.frozen? ⟨g, 1, none⟩ = false
  f2 : w.frozen? ⟨g, 2, none⟩ = false
  here : F g
  lt : ∀ k, F k → k < w.heap.size
  rL : w.ownsRow 0 31 1 vL L.length es
  rW : w.ownsRow 0 3 1 vW W.length (i64s W)
  rD : w.ownsRow 0 3 1 vD D.length (i64s D)
  fL : ∀ k, vL.ownBlock = some k → F k ∧ k ≠ g
  fW : ∀ k, vW.ownBlock = some k → F k ∧ k ≠ g
  fD : ∀ k, vD.ownBlock = some k → F k ∧ k ≠ g
  dLW : ∀ k, vL.ownBlock = some k → vW.ownBlock ≠ some k
  dLD : ∀ k, vL.ownBlock = some k → vD.ownBlock ≠ some k
  dWD : ∀ k, vW.ownBlock = some k → vD.ownBlock ≠ some k
  el : ∀ (i : Nat) (v : Value) (x : List Int), es[i]? = some v → L[i]? = some x → Elem w (fun k => F k ∧ k ≠ g ∧ vL.ownBlock ≠ some k ∧ vW.ownBlock ≠ some k ∧ vD.ownBlock ≠ some k) v x

def IsRef (w : World) (g : Nat) (F : Nat → Prop) (L : List (List Int)) (S : List (Int × Int)) : Prop := ∃ vL vW vD es, RefB w g F L (S.map Prod.fst) (S.map Prod.snd) vL vW vD es

section
variable {w w' : World} {g : Nat} {F : Nat → Prop} {L : List (List Int)} {S : List (Int × Int)} {W D : List Int} {vL vW vD : Value} {es : List Value}

theorem Elem.kept {v : Value} {x : List Int} (h : Elem w F v x) (hs : w.heap.size ≤ w'.heap.size) (hk : ∀ k, F k → k < w.heap.size → w'.heap[k]? = w.heap[k]?) : Elem w' F v x := by
  obtain ⟨A, c, rfl, hc, hr, hf⟩ := h
  exact ⟨A, c, rfl, hc, hr.kept hs fun a ha hl => hk _ (hf a ha) hl, hf⟩
theorem Elem.wider {F' : Nat → Prop} {v : Value} {x : List Int} (h : Elem w F v x) (hk : ∀ k, F k → F' k) : Elem w F' v x := by
  obtain ⟨A, c, rfl, hc, hr, hf⟩ := h
  exact ⟨A, c, rfl, hc, hr, fun a ha => hk _ (hf a ha)⟩
theorem RefB.kept (h : RefB w g F L W D vL vW vD es) (hs : w.heap.size ≤ w'.heap.size) (hk : ∀ k, F k → w'.heap[k]? = w.heap[k]?) : RefB w' g F L W D vL vW vD es where
  c0 := (World.cell?_of_block (a := ⟨g, 0, none⟩) (hk g h.here)).trans h.c0
  c1 := (World.cell?_of_block (a := ⟨g, 1, none⟩) (hk g h.here)).trans h.c1
  c2 := (World.cell?_of_block (a := ⟨g, 2, none⟩) (hk g h.here)).trans h.c2
  f0 := (World.frozen?_of_block (a := ⟨g, 0, none⟩) (hk g h.here)).trans h.f0
  f1 := (World.frozen?_of_block (a := ⟨g, 1, none⟩) (hk g h.here)).trans h.f1
  f2 := (World.frozen?_of_block (a := ⟨g, 2, none⟩) (hk g h.here)).trans h.f2
  here := h.here
  lt := fun k hf => Nat.lt_of_lt_of_le (h.lt k hf) hs
  rL := own_kept h.rL fun k hk' _ => hk k (h.fL k hk').1
  rW := own_kept h.rW fun k hk' _ => hk k (h.fW k hk').1
  rD := own_kept h.rD fun k hk' _ => hk k (h.fD k hk').1
  fL := h.fL
  fW := h.fW
  fD := h.fD
  dLW := h.dLW
  dLD := h.dLD
  dWD := h.dWD
  el := fun i v x hv hx => (h.el i v x hv hx).kept hs fun k hk' _ => hk k hk'.1
theorem IsRef.kept (h : IsRef w g F L S) (hs : w.heap.size ≤ w'.heap.size) (hk : ∀ k, F k → w'.heap[k]? = w.heap[k]?) : IsRef w' g F L S := by
  obtain ⟨a, b, c, d, h⟩ := h
  exact ⟨a, b, c, d, h.kept hs hk⟩
theorem IsRef.below (h : IsRef w g F L S) (hb : Below w.heap.size w w') : IsRef w' g F L S := by
  obtain ⟨a, b, c, d, h⟩ := h
  exact ⟨a, b, c, d, h.kept hb.size fun k hk => hb.block k (h.lt k hk)⟩
theorem IsRef.lt (h : IsRef w g F L S) : ∀ k, F k → k < w.heap.size := by
  obtain ⟨a, b, c, d, h⟩ := h
  exact h.lt
theorem ref_new (w : World) : IsRef (w.alloc (.cells #[.slice none 0 0, .slice none 0 0, .slice none 0 0] 30)) w.heap.size (fun k => k = w.heap.size) [] [] :=
  ⟨.slice none 0 0, .slice none 0 0, .slice none 0 0, [],
    { c0 := by rw [World.cell?_alloc_at _ _ _ _ rfl]; rfl
      c1 := by rw [World.cell?_alloc_at _ _ _ _ rfl]; rfl
      c2 := by rw [World.cell?_alloc_at _ _ _ _ rfl]; rfl
      f0 := by rw [World.frozen?, heap_alloc_new]; simp
      f1 := by rw [World.frozen?, heap_alloc_new]; simp
      f2 := by rw [World.frozen?, heap_alloc_new]; simp
      here := rfl
      lt := fun k hk => by subst hk; simp
      rL := World.ownsRow_nil _ _ _ _
      rW := World.ownsRow_nil _ _ _ _
      rD := World.ownsRow_nil _ _ _ _
      fL := fun k hk => by simp [Value.ownBlock] at hk
      fW := fun k hk => by simp [Value.ownBlock] at hk
      fD := fun k hk => by simp [Value.ownBlock] at hk
      dLW := fun k hk => by simp [Value.ownBlock] at hk
      dLD := fun k hk => by simp [Value.ownBlock] at hk
      dWD := fun k hk => by simp [Value.ownBlock] at hk
      el := fun i v x hv => by simp at hv }⟩
end

theorem eqBytes_b (b : Bool) (A A' : Option Addr) (c c' n n' : Nat) (L M : List Int) (w : World) (hb : decide (L = M) = b) (hz : L.length = n) (hz' : M.length = n') (hr : Rd w A (u8s L)) (hr' : Rd w A' (u8s M)) (hn : n ≤ 1073741824) (hn' : n' ≤ 1073741824) :
    Calls Try.prog 14 #[.slice A n c, .slice A' n' c'] w fun e w' => e = .returned (.bool b) ∧ ∃ d, w' = w.drewN d :=
  hb ▸ eqBytes_any A A' c c' n n' L M w hz hz' hr hr' hn hn'

theorem below_or {L : List (List Int)} {x y : List Int} {k : Nat} (h : ∀ (i : Nat) (z : List Int), i < k → L[i]? = some z → z ≠ x) (hk : L[k]? = some y) (hn : y ≠ x) : ∀ (i : Nat) (z : List Int), i < k + 1 → L[i]? = some z → z ≠ x := fun i z hi hz => by
  by_cases hik : i = k
  · subst hik
    rw [hk] at hz
    cases hz
    exact hn
  · exact h i z (by omega) hz

set_option maxHeartbeats 400000 in
theorem rfind_any {F : Nat → Prop} (g : Nat) (L : List (List Int)) (S : List (Int × Int)) (A : Option Addr) (c n : Nat) (x : List Int) (w : World) (h : IsRef w g F L S) (hz : x.length = n) (hr : Rd w A (u8s x)) (hn : n ≤ 1073741824) (hL : L.length ≤ 1000) (hs : ∀ y ∈ L, y.length ≤ 1073741824) :
    Calls Try.prog 11 #[.pointer (some ⟨g, 0, none⟩), .slice A n c] w fun e w' => e = .returned (.int .i64 (findB L x)) ∧ ∃ d, w' = w.drewN d := by
  obtain ⟨vL, vW, vD, es, h⟩ := h
  obtain ⟨nL, hnL⟩ : ∃ nL, L.length = nL := ⟨_, rfl⟩
  have c0 := h.c0
  have hown := h.rL
  have HEL := Lib.hid h.el
  rw [hnL] at hown hL
  obtain ⟨AL, cL, rfl, hcL, hmL, hrL, _, hles⟩ := own_val hown
  have HZ := Lib.hid hz
  have HNL := Lib.hid hnL
  have HS := Lib.hid hs
  clear h hown hz hnL hs
  go_enter Try.func11, Try.ntmps11
  go_wp2
  go_loopw [5] (fun i wr => ∃ k d : Nat, i = .int .i64 k ∧ k ≤ nL ∧ Hid (∀ (i : Nat) (y : List Int), i < k → L[i]? = some y → y ≠ x) ∧ wr = w.drewN d) (fun i _ => nL - (intOf i).toNat)
  case atStart => exact ⟨0, 0, rfl, by omega, fun i y hi => absurd hi (by omega), rfl⟩
  case round =>
    obtain ⟨k, d, rfl, hk, HE, rfl⟩ := hrel
    by_cases hlt : k < nL
    · obtain ⟨b, off, rfl, hbl, hcell⟩ := hrL.open_ (by omega)
      obtain ⟨v, hv⟩ : ∃ v, es[k]? = some v := ⟨es[k], by simp [hles, hlt]⟩
      obtain ⟨y, hy⟩ : ∃ y, L[k]? = some y := ⟨L[k]'(by rw [HNL.out]; exact hlt), by simp [HNL.out, hlt]⟩
      obtain ⟨Ae, ce, rfl, hce, hre, _⟩ := HEL.out k v y hv hy
      have hc1 := hcell k _ hv
      have hys := HS.out y (List.mem_of_getElem? hy)
      obtain ⟨m, hm⟩ : ∃ m, y.length = m := ⟨_, rfl⟩
      rw [hm] at hc1 hys hce
      have HM := Lib.hid hm
      have i0 : (0 : Int) ≤ (k : Int) := by omega
      have i1 : (k : Int) < (nL : Int) := by omega
      have HY := Lib.hid hy
      clear hcell hv hm hy
      by_cases hyx : y = x
      · have HT : Hid (findB L x = k + 1) := find_hit (by rw [← hyx]; exact HY.out) HE.out
        have HD := Lib.hid (decide_eq_true hyx)
        clear hyx
        go_wp2_with fail
        refine (eqBytes_b true _ _ _ _ m n y x _ HD.out HM.out HZ.out (hre.drewN d) (hr.drewN d) hys hn).mono ?_
        rintro e w1 ⟨rfl, d', rfl⟩
        go_wp2_with fail
        go_ret
        exact ⟨by rw [HT.out]; simp, d + d', rfl⟩
      · have HD := Lib.hid (decide_eq_false hyx)
        have HN := Lib.hid (below_or HE.out HY.out hyx)
        clear hyx
        go_wp2_with fail
        refine (eqBytes_b false _ _ _ _ m n y x _ HD.out HM.out HZ.out (hre.drewN d) (hr.drewN d) hys hn).mono ?_
        rintro e w1 ⟨rfl, d', rfl⟩
        go_wp2_with fail
        go_roundw
        case rel => exact ⟨k + 1, d + d', by go_num, by omega, HN.out, rfl⟩
        case measure => simp [intOf]; omega
    · have i1 : ¬ ((k : Int) < (nL : Int)) := by omega
      have HT : Hid (findB L x = 0) := find_miss fun i y hy => HE.out i y (by
        rcases Nat.lt_or_ge i L.length with h' | h'
        · rw [HNL.out] at h'; omega
        · rw [List.getElem?_eq_none h'] at hy; cases hy) hy
      go_wp2_with fail
      go_ret
      exact ⟨by rw [HT.out]; rfl, d, rfl⟩

theorem sg_take {S : List (Int × Int)} {k : Nat} {p : Int × Int} {who d : Int} (h : (S.take k).any (fun p => p.1 == who && p.2 == d) = false) (hk : S[k]? = some p) (hp : (p.1 == who && p.2 == d) = false) : (S.take (k + 1)).any (fun p => p.1 == who && p.2 == d) = false := by
  rw [take_next hk, List.any_append, h]
  simpa using hp
theorem sg_yes {S : List (Int × Int)} {k : Nat} {p : Int × Int} {who d : Int} (hk : S[k]? = some p) (hp : (p.1 == who && p.2 == d) = true) : signedB S who d = true := by
  unfold signedB
  rw [List.any_eq_true]
  exact ⟨p, List.mem_of_getElem? hk, hp⟩

set_option maxHeartbeats 400000 in
theorem rsigned_any {F : Nat → Prop} (g : Nat) (L : List (List Int)) (S : List (Int × Int)) (who d : Int) (w : World) (h : IsRef w g F L S) (hS : S.length ≤ 1000) :
    Calls Try.prog 19 #[.pointer (some ⟨g, 0, none⟩), .int .i64 who, .int .i64 d] w fun e w' => e = .returned (.bool (signedB S who d)) ∧ w = w' := by
  obtain ⟨vL, vW, vD, es, h⟩ := h
  obtain ⟨nS, hnS⟩ : ∃ nS, S.length = nS := ⟨_, rfl⟩
  have c1 := h.c1
  have c2 := h.c2
  have rW := h.rW
  have rD := h.rD
  simp only [List.length_map, hnS] at rW rD
  rw [hnS] at hS
  obtain ⟨AW, cW, rfl, hcW, hmW, hrW, _, hlW⟩ := own_val rW
  obtain ⟨AD, cD, rfl, hcD, hmD, hrD, _, hlD⟩ := own_val rD
  have HNS := Lib.hid hnS
  clear h rW rD hnS
  go_enter Try.func19, Try.ntmps19
  go_wp2
  go_loop [7] (fun i => ∃ k : Nat, i = .int .i64 k ∧ k ≤ nS ∧ Hid ((S.take k).any (fun p => p.1 == who && p.2 == d) = false)) (fun i => nS - (intOf i).toNat)
  case atStart => exact ⟨0, rfl, by omega, by simp [Hid]⟩
  case round =>
    obtain ⟨k, rfl, hk, HE⟩ := hrel
    by_cases hlt : k < nS
    · obtain ⟨b, off, rfl, hbl, hcell⟩ := hrW.open_ (by omega)
      obtain ⟨b', off', rfl, hbl', hcell'⟩ := hrD.open_ (by omega)
      obtain ⟨p, hp⟩ : ∃ p, S[k]? = some p := ⟨S[k]'(by rw [HNS.out]; exact hlt), by simp [HNS.out, hlt]⟩
      have k1 := hcell k (.int .i64 p.1) (by simp only [i64s, List.map_map, List.getElem?_map, hp, Option.map_some, Function.comp])
      have k2 := hcell' k (.int .i64 p.2) (by simp only [i64s, List.map_map, List.getElem?_map, hp, Option.map_some, Function.comp])
      obtain ⟨p1, p2⟩ := p
      simp only at k1 k2
      have HP := Lib.hid hp
      have i0 : (0 : Int) ≤ (k : Int) := by omega
      have i1 : (k : Int) < (nS : Int) := by omega
      clear hcell hcell' hp
      by_cases e1 : p1 = who
      · have j1 : (p1 == who) = true := by simp [e1]
        by_cases e2 : p2 = d
        · have j2 : (p2 == d) = true := by simp [e2]
          have HT := Lib.hid (sg_yes HP.out (by simp [j1, j2] : ((p1, p2).1 == who && (p1, p2).2 == d) = true))
          clear e1 e2
          go_wp2
          go_ret
          exact ⟨by rw [HT.out]; rfl, rfl⟩
        · have j2 : (p2 == d) = false := by simp [e2]
          have HN := Lib.hid (sg_take HE.out HP.out (by simp [j2]))
          clear e1 e2
          go_wp2
          go_round
          case rel => exact ⟨k + 1, by go_num, by omega, HN.out⟩
          case measure => simp [intOf]; omega
      · have j1 : (p1 == who) = false := by simp [e1]
        have HN := Lib.hid (sg_take HE.out HP.out (by simp [j1]))
        clear e1
        go_wp2
        go_round
        case rel => exact ⟨k + 1, by go_num, by omega, HN.out⟩
        case measure => simp [intOf]; omega
    · have i1 : ¬ ((k : Int) < (nS : Int)) := by omega
      have HT : Hid (signedB S who d = false) := by
        have := HE.out
        rwa [List.take_of_length_le (by rw [HNS.out]; omega)] at this
      go_wp2
      go_ret
      exact ⟨by rw [HT.out]; rfl, rfl⟩

end Go.Proofs.Ytnooippbdfobdaa
