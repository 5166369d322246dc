/-
  The page's own book: what lies where, and its calls.
-/
import Derived.Test.YtcfnomnhameleaaRows
import Derived.Test.YtcfnomnhameleaaZA
import Derived.Test.YtcfnomnhameleaaHelp
import Derived.Test.YtcfnomnhameleaaEqs
import Derived.Deep.QuietTactic
import Derived.BigQuiet
import Derived.Outline
import Derived.Deep.RegionLaw
import Derived.Deep.DeepCutAuto
import Derived.Deep.CutRange
import Derived.Lib.SlBytesConst
import Derived.ArgAppend
namespace Go.Proofs.Ytcfnomnhameleaa
open Go.RowKit

/-- the number of bytes: the first place where they stand, from 1; or 0 -/
def findB : List (List Int) → List Int → Nat
  | [], _ => 0
  | y :: L, x => if y = x then 1 else match findB L x with | 0 => 0 | n + 1 => n + 2
theorem find_hit {x : List Int} : ∀ {L : List (List Int)} {k : Nat}, L[k]? = some x → (∀ (i : Nat) (y : List Int), i < k → L[i]? = some y → y ≠ x) → findB L x = k + 1
  | [], k, h, _ => by simp at h
  | y :: L, 0, h, _ => by simp at h; simp [findB, h]
  | y :: L, k + 1, h, hn => by
    have h0 : y ≠ x := hn 0 y (by omega) rfl
    have ih := find_hit (L := L) (k := k) (by simpa using h) fun i z hi hz => hn (i + 1) z (by omega) (by simpa using hz)
    simp [findB, h0, ih]
theorem find_miss {x : List Int} : ∀ {L : List (List Int)}, (∀ (i : Nat) (y : List Int), L[i]? = some y → y ≠ x) → findB L x = 0
  | [], _ => rfl
  | y :: L, hn => by
    have h0 : y ≠ x := hn 0 y rfl
    have ih := find_miss (L := L) fun i z hz => hn (i + 1) z (by simpa using hz)
    simp [findB, h0, ih]
theorem find_some {x : List Int} : ∀ {L : List (List Int)} {k : Nat}, findB L x = k + 1 → L[k]? = some x
  | [], k, h => by simp [findB] at h
  | y :: L, k, h => by
    unfold findB at h
    by_cases h0 : y = x
    · rw [if_pos h0] at h
      have : k = 0 := by omega
      subst this
      simp [h0]
    · rw [if_neg h0] at h
      cases hf : findB L x with
      | zero => rw [hf] at h; simp at h
      | succ n =>
        rw [hf] at h
        have : k = n + 1 := by simp at h; omega
        subst this
        simpa using find_some hf
theorem find_le (L : List (List Int)) (x : List Int) : findB L x ≤ L.length := by
  cases h : findB L x with
  | zero => omega
  | succ k =>
    have := find_some h
    rcases Nat.lt_or_ge k L.length with h' | h'
    · omega
    · rw [List.getElem?_eq_none h'] at this; cases this
/-- was it signed? -/
def signedB (S : List (Int × Int)) (who d : Int) : Bool := S.any fun p => p.1 == who && p.2 == d

/-- what a slice of bytes shows, in blocks of F -/
def Elem (w : World) (F : Nat → Prop) (v : Value) (x : List Int) : Prop := ∃ A c, v = .slice A x.length c ∧ x.length ≤ c ∧ Rd w A (u8s x) ∧ ∀ a, A = some a → F a.block

structure RefB (w : World) (g : Nat) (F : Nat → Prop) (L : List (List Int)) (W D : List Int) (vL vW vD : Value) (es : List Value) : Prop where
  c0 : w.cell? ⟨g, 0, none⟩ = some vL
  c1 : w.cell? ⟨g, 1, none⟩ = some vW
  c2 : w.cell? ⟨g, 2, none⟩ = some vD
  f0 : w.frozen? ⟨g, 0, none⟩ = false
  f1 : w.frozen? ⟨g, 1, none⟩ = false
  f2 : w.frozen? ⟨g, 2, none⟩ = false
  here : F g
  lt : ∀ k, F k → k < w.heap.size
  rL : w.ownsRow 0 60 1 vL L.length es
  rW : w.ownsRow 0 3 1 vW W.length (i64s W)
  rD : w.ownsRow 0 3 1 vD D.length (i64s D)
  fL : ∀ k, vL.ownBlock = some k → F k ∧ k ≠ g
  fW : ∀ k, vW.ownBlock = some k → F k ∧ k ≠ g
  fD : ∀ k, vD.ownBlock = some k → F k ∧ k ≠ g
  dLW : ∀ k, vL.ownBlock = some k → vW.ownBlock ≠ some k
  dLD : ∀ k, vL.ownBlock = some k → vD.ownBlock ≠ some k
  dWD : ∀ k, vW.ownBlock = some k → vD.ownBlock ≠ some k
  el : ∀ (i : Nat) (v : Value) (x : List Int), es[i]? = some v → L[i]? = some x → Elem w (fun k => F k ∧ k ≠ g ∧ vL.ownBlock ≠ some k ∧ vW.ownBlock ≠ some k ∧ vD.ownBlock ≠ some k) v x

def IsRef (w : World) (g : Nat) (F : Nat → Prop) (L : List (List Int)) (S : List (Int × Int)) : Prop := ∃ vL vW vD es, RefB w g F L (S.map Prod.fst) (S.map Prod.snd) vL vW vD es

section
variable {w w' : World} {g : Nat} {F : Nat → Prop} {L : List (List Int)} {S : List (Int × Int)} {W D : List Int} {vL vW vD : Value} {es : List Value}

theorem Elem.kept {v : Value} {x : List Int} (h : Elem w F v x) (hs : w.heap.size ≤ w'.heap.size) (hk : ∀ k, F k → k < w.heap.size → w'.heap[k]? = w.heap[k]?) : Elem w' F v x := by
  obtain ⟨A, c, rfl, hc, hr, hf⟩ := h
  exact ⟨A, c, rfl, hc, hr.kept hs fun a ha hl => hk _ (hf a ha) hl, hf⟩
theorem Elem.wider {F' : Nat → Prop} {v : Value} {x : List Int} (h : Elem w F v x) (hk : ∀ k, F k → F' k) : Elem w F' v x := by
  obtain ⟨A, c, rfl, hc, hr, hf⟩ := h
  exact ⟨A, c, rfl, hc, hr, fun a ha => hk _ (hf a ha)⟩
theorem RefB.kept (h : RefB w g F L W D vL vW vD es) (hs : w.heap.size ≤ w'.heap.size) (hk : ∀ k, F k → w'.heap[k]? = w.heap[k]?) : RefB w' g F L W D vL vW vD es where
  c0 := (World.cell?_of_block (a := ⟨g, 0, none⟩) (hk g h.here)).trans h.c0
  c1 := (World.cell?_of_block (a := ⟨g, 1, none⟩) (hk g h.here)).trans h.c1
  c2 := (World.cell?_of_block (a := ⟨g, 2, none⟩) (hk g h.here)).trans h.c2
  f0 := (World.frozen?_of_block (a := ⟨g, 0, none⟩) (hk g h.here)).trans h.f0
  f1 := (World.frozen?_of_block (a := ⟨g, 1, none⟩) (hk g h.here)).trans h.f1
  f2 := (World.frozen?_of_block (a := ⟨g, 2, none⟩) (hk g h.here)).trans h.f2
  here := h.here
  lt := fun k hf => Nat.lt_of_lt_of_le (h.lt k hf) hs
  rL := own_kept h.rL fun k hk' _ => hk k (h.fL k hk').1
  rW := own_kept h.rW fun k hk' _ => hk k (h.fW k hk').1
  rD := own_kept h.rD fun k hk' _ => hk k (h.fD k hk').1
  fL := h.fL
  fW := h.fW
  fD := h.fD
  dLW := h.dLW
  dLD := h.dLD
  dWD := h.dWD
  el := fun i v x hv hx => (h.el i v x hv hx).kept hs fun k hk' _ => hk k hk'.1
theorem IsRef.kept (h : IsRef w g F L S) (hs : w.heap.size ≤ w'.heap.size) (hk : ∀ k, F k → w'.heap[k]? = w.heap[k]?) : IsRef w' g F L S := by
  obtain ⟨a, b, c, d, h⟩ := h
  exact ⟨a, b, c, d, h.kept hs hk⟩
theorem IsRef.below (h : IsRef w g F L S) (hb : Below w.heap.size w w') : IsRef w' g F L S := by
  obtain ⟨a, b, c, d, h⟩ := h
  exact ⟨a, b, c, d, h.kept hb.size fun k hk => hb.block k (h.lt k hk)⟩
theorem IsRef.lt (h : IsRef w g F L S) : ∀ k, F k → k < w.heap.size := by
  obtain ⟨a, b, c, d, h⟩ := h
  exact h.lt
theorem ref_new (w : World) : IsRef (w.alloc (.cells #[.slice none 0 0, .slice none 0 0, .slice none 0 0] 33)) w.heap.size (fun k => k = w.heap.size) [] [] :=
  ⟨.slice none 0 0, .slice none 0 0, .slice none 0 0, [],
    { c0 := by rw [World.cell?_alloc_at _ _ _ _ rfl]; rfl
      c1 := by rw [World.cell?_alloc_at _ _ _ _ rfl]; rfl
      c2 := by rw [World.cell?_alloc_at _ _ _ _ rfl]; rfl
      f0 := by rw [World.frozen?, heap_alloc_new]; simp
      f1 := by rw [World.frozen?, heap_alloc_new]; simp
      f2 := by rw [World.frozen?, heap_alloc_new]; simp
      here := rfl
      lt := fun k hk => by subst hk; simp
      rL := World.ownsRow_nil _ _ _ _
      rW := World.ownsRow_nil _ _ _ _
      rD := World.ownsRow_nil _ _ _ _
      fL := fun k hk => by simp [Value.ownBlock] at hk
      fW := fun k hk => by simp [Value.ownBlock] at hk
      fD := fun k hk => by simp [Value.ownBlock] at hk
      dLW := fun k hk => by simp [Value.ownBlock] at hk
      dLD := fun k hk => by simp [Value.ownBlock] at hk
      dWD := fun k hk => by simp [Value.ownBlock] at hk
      el := fun i v x hv => by simp at hv }⟩
end

theorem eqBytes_b (b : Bool) (A A' : Option Addr) (c c' n n' : Nat) (L M : List Int) (w : World) (hb : decide (L = M) = b) (hz : L.length = n) (hz' : M.length = n') (hr : Rd w A (u8s L)) (hr' : Rd w A' (u8s M)) (hn : n ≤ 1073741824) (hn' : n' ≤ 1073741824) :
    Calls Try.prog 72 #[.slice A n c, .slice A' n' c'] w fun e w' => e = .returned (.bool b) ∧ ∃ d, w' = w.drewN d :=
  hb ▸ eqBytes_any A A' c c' n n' L M w hz hz' hr hr' hn hn'

theorem below_or {L : List (List Int)} {x y : List Int} {k : Nat} (h : ∀ (i : Nat) (z : List Int), i < k → L[i]? = some z → z ≠ x) (hk : L[k]? = some y) (hn : y ≠ x) : ∀ (i : Nat) (z : List Int), i < k + 1 → L[i]? = some z → z ≠ x := fun i z hi hz => by
  by_cases hik : i = k
  · subst hik
    rw [hk] at hz
    cases hz
    exact hn
  · exact h i z (by omega) hz

set_option maxHeartbeats 400000 in
theorem rfind_any {F : Nat → Prop} (g : Nat) (L : List (List Int)) (S : List (Int × Int)) (A : Option Addr) (c n : Nat) (x : List Int) (w : World) (h : IsRef w g F L S) (hz : x.length = n) (hr : Rd w A (u8s x)) (hn : n ≤ 1073741824) (hL : L.length ≤ 1000) (hs : ∀ y ∈ L, y.length ≤ 1073741824) :
    Calls Try.prog 45 #[.pointer (some ⟨g, 0, none⟩), .slice A n c] w fun e w' => e = .returned (.int .i64 (findB L x)) ∧ ∃ d, w' = w.drewN d := by
  obtain ⟨vL, vW, vD, es, h⟩ := h
  obtain ⟨nL, hnL⟩ : ∃ nL, L.length = nL := ⟨_, rfl⟩
  have c0 := h.c0
  have hown := h.rL
  have HEL := Lib.hid h.el
  rw [hnL] at hown hL
  obtain ⟨AL, cL, rfl, hcL, hmL, hrL, _, hles⟩ := own_val hown
  have HZ := Lib.hid hz
  have HNL := Lib.hid hnL
  have HS := Lib.hid hs
  clear h hown hz hnL hs
  go_enter Try.func45, Try.ntmps45
  go_wp2
  go_loopw [5] (fun i wr => ∃ k d : Nat, i = .int .i64 k ∧ k ≤ nL ∧ Hid (∀ (i : Nat) (y : List Int), i < k → L[i]? = some y → y ≠ x) ∧ wr = w.drewN d) (fun i _ => nL - (intOf i).toNat)
  case atStart => exact ⟨0, 0, rfl, by omega, fun i y hi => absurd hi (by omega), rfl⟩
  case round =>
    obtain ⟨k, d, rfl, hk, HE, rfl⟩ := hrel
    by_cases hlt : k < nL
    · obtain ⟨b, off, rfl, hbl, hcell⟩ := hrL.open_ (by omega)
      obtain ⟨v, hv⟩ : ∃ v, es[k]? = some v := ⟨es[k], by simp [hles, hlt]⟩
      obtain ⟨y, hy⟩ : ∃ y, L[k]? = some y := ⟨L[k]'(by rw [HNL.out]; exact hlt), by simp [HNL.out, hlt]⟩
      obtain ⟨Ae, ce, rfl, hce, hre, _⟩ := HEL.out k v y hv hy
      have hc1 := hcell k _ hv
      have hys := HS.out y (List.mem_of_getElem? hy)
      obtain ⟨m, hm⟩ : ∃ m, y.length = m := ⟨_, rfl⟩
      rw [hm] at hc1 hys hce
      have HM := Lib.hid hm
      have i0 : (0 : Int) ≤ (k : Int) := by omega
      have i1 : (k : Int) < (nL : Int) := by omega
      have HY := Lib.hid hy
      clear hcell hv hm hy
      by_cases hyx : y = x
      · have HT : Hid (findB L x = k + 1) := find_hit (by rw [← hyx]; exact HY.out) HE.out
        have HD := Lib.hid (decide_eq_true hyx)
        clear hyx
        go_wp2_with fail
        refine (eqBytes_b true _ _ _ _ m n y x _ HD.out HM.out HZ.out (hre.drewN d) (hr.drewN d) hys hn).mono ?_
        rintro e w1 ⟨rfl, d', rfl⟩
        go_wp2_with fail
        go_ret
        exact ⟨by rw [HT.out]; simp, d + d', rfl⟩
      · have HD := Lib.hid (decide_eq_false hyx)
        have HN := Lib.hid (below_or HE.out HY.out hyx)
        clear hyx
        go_wp2_with fail
        refine (eqBytes_b false _ _ _ _ m n y x _ HD.out HM.out HZ.out (hre.drewN d) (hr.drewN d) hys hn).mono ?_
        rintro e w1 ⟨rfl, d', rfl⟩
        go_wp2_with fail
        go_roundw
        case rel => exact ⟨k + 1, d + d', by go_num, by omega, HN.out, rfl⟩
        case measure => simp [intOf]; omega
    · have i1 : ¬ ((k : Int) < (nL : Int)) := by omega
      have HT : Hid (findB L x = 0) := find_miss fun i y hy => HE.out i y (by
        rcases Nat.lt_or_ge i L.length with h' | h'
        · rw [HNL.out] at h'; omega
        · rw [List.getElem?_eq_none h'] at hy; cases hy) hy
      go_wp2_with fail
      go_ret
      exact ⟨by rw [HT.out]; rfl, d, rfl⟩

theorem sg_take {S : List (Int × Int)} {k : Nat} {p : Int × Int} {who d : Int} (h : (S.take k).any (fun p => p.1 == who && p.2 == d) = false) (hk : S[k]? = some p) (hp : (p.1 == who && p.2 == d) = false) : (S.take (k + 1)).any (fun p => p.1 == who && p.2 == d) = false := by
  rw [take_next hk, List.any_append, h]
  simpa using hp
theorem sg_yes {S : List (Int × Int)} {k : Nat} {p : Int × Int} {who d : Int} (hk : S[k]? = some p) (hp : (p.1 == who && p.2 == d) = true) : signedB S who d = true := by
  unfold signedB
  rw [List.any_eq_true]
  exact ⟨p, List.mem_of_getElem? hk, hp⟩

set_option maxHeartbeats 400000 in
theorem rsigned_any {F : Nat → Prop} (g : Nat) (L : List (List Int)) (S : List (Int × Int)) (who d : Int) (w : World) (h : IsRef w g F L S) (hS : S.length ≤ 1000) :
    Calls Try.prog 74 #[.pointer (some ⟨g, 0, none⟩), .int .i64 who, .int .i64 d] w fun e w' => e = .returned (.bool (signedB S who d)) ∧ w = w' := by
  obtain ⟨vL, vW, vD, es, h⟩ := h
  obtain ⟨nS, hnS⟩ : ∃ nS, S.length = nS := ⟨_, rfl⟩
  have c1 := h.c1
  have c2 := h.c2
  have rW := h.rW
  have rD := h.rD
  simp only [List.length_map, hnS] at rW rD
  rw [hnS] at hS
  obtain ⟨AW, cW, rfl, hcW, hmW, hrW, _, hlW⟩ := own_val rW
  obtain ⟨AD, cD, rfl, hcD, hmD, hrD, _, hlD⟩ := own_val rD
  have HNS := Lib.hid hnS
  clear h rW rD hnS
  go_enter Try.func74, Try.ntmps74
  go_wp2
  go_loop [7] (fun i => ∃ k : Nat, i = .int .i64 k ∧ k ≤ nS ∧ Hid ((S.take k).any (fun p => p.1 == who && p.2 == d) = false)) (fun i => nS - (intOf i).toNat)
  case atStart => exact ⟨0, rfl, by omega, by simp [Hid]⟩
  case round =>
    obtain ⟨k, rfl, hk, HE⟩ := hrel
    by_cases hlt : k < nS
    · obtain ⟨b, off, rfl, hbl, hcell⟩ := hrW.open_ (by omega)
      obtain ⟨b', off', rfl, hbl', hcell'⟩ := hrD.open_ (by omega)
      obtain ⟨p, hp⟩ : ∃ p, S[k]? = some p := ⟨S[k]'(by rw [HNS.out]; exact hlt), by simp [HNS.out, hlt]⟩
      have k1 := hcell k (.int .i64 p.1) (by simp only [i64s, List.map_map, List.getElem?_map, hp, Option.map_some, Function.comp])
      have k2 := hcell' k (.int .i64 p.2) (by simp only [i64s, List.map_map, List.getElem?_map, hp, Option.map_some, Function.comp])
      obtain ⟨p1, p2⟩ := p
      simp only at k1 k2
      have HP := Lib.hid hp
      have i0 : (0 : Int) ≤ (k : Int) := by omega
      have i1 : (k : Int) < (nS : Int) := by omega
      clear hcell hcell' hp
      by_cases e1 : p1 = who
      · have j1 : (p1 == who) = true := by simp [e1]
        by_cases e2 : p2 = d
        · have j2 : (p2 == d) = true := by simp [e2]
          have HT := Lib.hid (sg_yes HP.out (by simp [j1, j2] : ((p1, p2).1 == who && (p1, p2).2 == d) = true))
          clear e1 e2
          go_wp2
          go_ret
          exact ⟨by rw [HT.out]; rfl, rfl⟩
        · have j2 : (p2 == d) = false := by simp [e2]
          have HN := Lib.hid (sg_take HE.out HP.out (by simp [j2]))
          clear e1 e2
          go_wp2
          go_round
          case rel => exact ⟨k + 1, by go_num, by omega, HN.out⟩
          case measure => simp [intOf]; omega
      · have j1 : (p1 == who) = false := by simp [e1]
        have HN := Lib.hid (sg_take HE.out HP.out (by simp [j1]))
        clear e1
        go_wp2
        go_round
        case rel => exact ⟨k + 1, by go_num, by omega, HN.out⟩
        case measure => simp [intOf]; omega
    · have i1 : ¬ ((k : Int) < (nS : Int)) := by omega
      have HT : Hid (signedB S who d = false) := by
        have := HE.out
        rwa [List.take_of_length_le (by rw [HNS.out]; omega)] at this
      go_wp2
      go_ret
      exact ⟨by rw [HT.out]; rfl, rfl⟩

end Go.Proofs.Ytcfnomnhameleaa
/-
  The page's own book: what is put into it.
-/
namespace Go.Proofs.Ytcfnomnhameleaa
open Go.RowKit

section
variable {w w2 : World} {g : Nat} {F : Nat → Prop} {L : List (List Int)} {W D : List Int} {vL vW vD : Value} {es : List Value}

theorem set_block {w : World} {b o k : Nat} (u : Value) (h : k ≠ b) : (w.setCell ⟨b, o, none⟩ u).heap[k]? = w.heap[k]? := Below.heap_setCell _ _ _ _ h

theorem RefB.putW (h : RefB w g F L W D vL vW vD es) (hsz : w.heap.size ≤ w2.heap.size) (hk : ∀ k, k < w.heap.size → vW.ownBlock ≠ some k → w2.heap[k]? = w.heap[k]?) {g' c' n : Nat} {W' : List Int} (hn : W'.length = n)
    (ho : w2.ownsRow 0 3 1 (.slice (some ⟨g', 0, none⟩) n c') n (i64s W')) (hat : vW.ownBlock = some g' ∨ w.heap.size ≤ g') :
    RefB (w2.setCell ⟨g, 1, none⟩ (.slice (some ⟨g', 0, none⟩) n c')) g (fun k => F k ∨ (w.heap.size ≤ k ∧ k < w2.heap.size)) L W' D vL (.slice (some ⟨g', 0, none⟩) n c') vD es := by
  subst hn
  have hg := h.lt g h.here
  have hgb := hk g hg (fun e => (h.fW g e).2 rfl)
  have hg' : g' ≠ g := by
    rcases hat with e | e
    · exact (h.fW g' e).2
    · omega
  have hg2 := (own_lt ho (g := g') rfl).1
  have hnew : ∀ k, k < w.heap.size → vW.ownBlock ≠ some k → g' ≠ k := fun k hk' hn e => by
    rcases hat with e' | e'
    · exact hn (e ▸ e')
    · omega
  have cc : ∀ o v, w.cell? ⟨g, o, none⟩ = some v → w2.cell? ⟨g, o, none⟩ = some v := fun o v hc => (World.cell?_of_block (a := ⟨g, o, none⟩) hgb).trans hc
  have ff : ∀ o, w.frozen? ⟨g, o, none⟩ = false → (w2.setCell ⟨g, 1, none⟩ (.slice (some ⟨g', 0, none⟩) W'.length c')).frozen? ⟨g, o, none⟩ = false := fun o hc => by
    rw [World.frozen?_setCell]; exact (World.frozen?_of_block (a := ⟨g, o, none⟩) hgb).trans hc
  have rows : ∀ {e : TypeId} {n : Nat} {v : Value} {xs : List Value}, w.ownsRow 0 e 1 v n xs → (∀ k, v.ownBlock = some k → k ≠ g ∧ vW.ownBlock ≠ some k) → (w2.setCell ⟨g, 1, none⟩ (.slice (some ⟨g', 0, none⟩) W'.length c')).ownsRow 0 e 1 v n xs := fun hr hd =>
    own_kept hr fun k hk' hl => (set_block _ (hd k hk').1).trans (hk k hl (hd k hk').2)
  exact
    { c0 := (World.cell?_setCell_other _ _ _ _ (by simp)).trans (cc 0 _ h.c0)
      c1 := World.cell?_setCell_same _ _ _ (cc 1 _ h.c1)
      c2 := (World.cell?_setCell_other _ _ _ _ (by simp)).trans (cc 2 _ h.c2)
      f0 := ff 0 h.f0
      f1 := ff 1 h.f1
      f2 := ff 2 h.f2
      here := .inl h.here
      lt := fun k hf => by
        rcases hf with hf | hf
        · have := h.lt k hf; simp; omega
        · simpa using hf.2
      rL := rows h.rL fun k hk' => ⟨(h.fL k hk').2, h.dLW k hk'⟩
      rW := own_kept ho fun k hk' _ => set_block _ (by have : g' = k := by simpa [Value.ownBlock] using hk'
                                                       omega)
      rD := rows h.rD fun k hk' => ⟨(h.fD k hk').2, fun e => h.dWD k e hk'⟩
      fL := fun k hk' => ⟨.inl (h.fL k hk').1, (h.fL k hk').2⟩
      fW := fun k hk' => by
        have e : g' = k := by simpa [Value.ownBlock] using hk'
        subst e
        refine ⟨?_, hg'⟩
        rcases hat with e' | e'
        · exact .inl (h.fW _ e').1
        · exact .inr ⟨e', hg2⟩
      fD := fun k hk' => ⟨.inl (h.fD k hk').1, (h.fD k hk').2⟩
      dLW := fun k hk' e => hnew k (h.lt k (h.fL k hk').1) (h.dLW k hk') (by simpa [Value.ownBlock] using e)
      dLD := h.dLD
      dWD := fun k hk' e => by
        have e' : g' = k := by simpa [Value.ownBlock] using hk'
        exact hnew k (h.lt k (h.fD k e).1) (fun e2 => h.dWD k e2 e) e'
      el := fun i v x hv hx => by
        refine ((h.el i v x hv hx).kept (by simpa using hsz) fun k hk' hl => (set_block _ hk'.2.1).trans (hk k hl hk'.2.2.2.1)).wider fun k hk' => ⟨.inl hk'.1, hk'.2.1, hk'.2.2.1, fun e => hnew k (h.lt k hk'.1) hk'.2.2.2.1 (by simpa [Value.ownBlock] using e), hk'.2.2.2.2⟩ }

theorem RefB.putD (h : RefB w g F L W D vL vW vD es) (hsz : w.heap.size ≤ w2.heap.size) (hk : ∀ k, k < w.heap.size → vD.ownBlock ≠ some k → w2.heap[k]? = w.heap[k]?) {g' c' n : Nat} {D' : List Int} (hn : D'.length = n)
    (ho : w2.ownsRow 0 3 1 (.slice (some ⟨g', 0, none⟩) n c') n (i64s D')) (hat : vD.ownBlock = some g' ∨ w.heap.size ≤ g') :
    RefB (w2.setCell ⟨g, 2, none⟩ (.slice (some ⟨g', 0, none⟩) n c')) g (fun k => F k ∨ (w.heap.size ≤ k ∧ k < w2.heap.size)) L W D' vL vW (.slice (some ⟨g', 0, none⟩) n c') es := by
  subst hn
  have hg := h.lt g h.here
  have hgb := hk g hg (fun e => (h.fD g e).2 rfl)
  have hg' : g' ≠ g := by
    rcases hat with e | e
    · exact (h.fD g' e).2
    · omega
  have hg2 := (own_lt ho (g := g') rfl).1
  have hnew : ∀ k, k < w.heap.size → vD.ownBlock ≠ some k → g' ≠ k := fun k hk' hn e => by
    rcases hat with e' | e'
    · exact hn (e ▸ e')
    · omega
  have cc : ∀ o v, w.cell? ⟨g, o, none⟩ = some v → w2.cell? ⟨g, o, none⟩ = some v := fun o v hc => (World.cell?_of_block (a := ⟨g, o, none⟩) hgb).trans hc
  have ff : ∀ o, w.frozen? ⟨g, o, none⟩ = false → (w2.setCell ⟨g, 2, none⟩ (.slice (some ⟨g', 0, none⟩) D'.length c')).frozen? ⟨g, o, none⟩ = false := fun o hc => by
    rw [World.frozen?_setCell]; exact (World.frozen?_of_block (a := ⟨g, o, none⟩) hgb).trans hc
  have rows : ∀ {e : TypeId} {n : Nat} {v : Value} {xs : List Value}, w.ownsRow 0 e 1 v n xs → (∀ k, v.ownBlock = some k → k ≠ g ∧ vD.ownBlock ≠ some k) → (w2.setCell ⟨g, 2, none⟩ (.slice (some ⟨g', 0, none⟩) D'.length c')).ownsRow 0 e 1 v n xs := fun hr hd =>
    own_kept hr fun k hk' hl => (set_block _ (hd k hk').1).trans (hk k hl (hd k hk').2)
  exact
    { c0 := (World.cell?_setCell_other _ _ _ _ (by simp)).trans (cc 0 _ h.c0)
      c1 := (World.cell?_setCell_other _ _ _ _ (by simp)).trans (cc 1 _ h.c1)
      c2 := World.cell?_setCell_same _ _ _ (cc 2 _ h.c2)
      f0 := ff 0 h.f0
      f1 := ff 1 h.f1
      f2 := ff 2 h.f2
      here := .inl h.here
      lt := fun k hf => by
        rcases hf with hf | hf
        · have := h.lt k hf; simp; omega
        · simpa using hf.2
      rL := rows h.rL fun k hk' => ⟨(h.fL k hk').2, h.dLD k hk'⟩
      rW := rows h.rW fun k hk' => ⟨(h.fW k hk').2, h.dWD k hk'⟩
      rD := own_kept ho fun k hk' _ => set_block _ (by have : g' = k := by simpa [Value.ownBlock] using hk'
                                                       omega)
      fL := fun k hk' => ⟨.inl (h.fL k hk').1, (h.fL k hk').2⟩
      fW := fun k hk' => ⟨.inl (h.fW k hk').1, (h.fW k hk').2⟩
      fD := fun k hk' => by
        have e : g' = k := by simpa [Value.ownBlock] using hk'
        subst e
        refine ⟨?_, hg'⟩
        rcases hat with e' | e'
        · exact .inl (h.fD _ e').1
        · exact .inr ⟨e', hg2⟩
      dLW := h.dLW
      dLD := fun k hk' e => hnew k (h.lt k (h.fL k hk').1) (h.dLD k hk') (by simpa [Value.ownBlock] using e)
      dWD := fun k hk' e => hnew k (h.lt k (h.fW k hk').1) (h.dWD k hk') (by simpa [Value.ownBlock] using e)
      el := fun i v x hv hx => by
        refine ((h.el i v x hv hx).kept (by simpa using hsz) fun k hk' hl => (set_block _ hk'.2.1).trans (hk k hl hk'.2.2.2.2)).wider fun k hk' => ⟨.inl hk'.1, hk'.2.1, hk'.2.2.1, hk'.2.2.2.1, fun e => hnew k (h.lt k hk'.1) hk'.2.2.2.2 (by simpa [Value.ownBlock] using e)⟩ }

theorem RefB.putL (h : RefB w g F L W D vL vW vD es) (hsz : w.heap.size ≤ w2.heap.size) (hk : ∀ k, k < w.heap.size → vL.ownBlock ≠ some k → w2.heap[k]? = w.heap[k]?) {g' c' n : Nat} {x : List Int} {v : Value} (hn : L.length + 1 = n)
    (ho : w2.ownsRow 0 60 1 (.slice (some ⟨g', 0, none⟩) n c') n (es ++ [v])) (hat : vL.ownBlock = some g' ∨ w.heap.size ≤ g')
    (hel : Elem w2 (fun k => w.heap.size ≤ k ∧ k < w2.heap.size ∧ k ≠ g') v x) :
    RefB (w2.setCell ⟨g, 0, none⟩ (.slice (some ⟨g', 0, none⟩) n c')) g (fun k => F k ∨ (w.heap.size ≤ k ∧ k < w2.heap.size)) (L ++ [x]) W D (.slice (some ⟨g', 0, none⟩) n c') vW vD (es ++ [v]) := by
  subst hn
  have hg := h.lt g h.here
  have hgb := hk g hg (fun e => (h.fL g e).2 rfl)
  have hg' : g' ≠ g := by
    rcases hat with e | e
    · exact (h.fL g' e).2
    · omega
  have hg2 := (own_lt ho (g := g') rfl).1
  have hnew : ∀ k, k < w.heap.size → vL.ownBlock ≠ some k → g' ≠ k := fun k hk' hn e => by
    rcases hat with e' | e'
    · exact hn (e ▸ e')
    · omega
  have hes : es.length = L.length := by have := h.rL.1; omega
  have cc : ∀ o v, w.cell? ⟨g, o, none⟩ = some v → w2.cell? ⟨g, o, none⟩ = some v := fun o v hc => (World.cell?_of_block (a := ⟨g, o, none⟩) hgb).trans hc
  have ff : ∀ o, w.frozen? ⟨g, o, none⟩ = false → (w2.setCell ⟨g, 0, none⟩ (.slice (some ⟨g', 0, none⟩) (L.length + 1) c')).frozen? ⟨g, o, none⟩ = false := fun o hc => by
    rw [World.frozen?_setCell]; exact (World.frozen?_of_block (a := ⟨g, o, none⟩) hgb).trans hc
  have rows : ∀ {e : TypeId} {n : Nat} {v : Value} {xs : List Value}, w.ownsRow 0 e 1 v n xs → (∀ k, v.ownBlock = some k → k ≠ g ∧ vL.ownBlock ≠ some k) → (w2.setCell ⟨g, 0, none⟩ (.slice (some ⟨g', 0, none⟩) (L.length + 1) c')).ownsRow 0 e 1 v n xs := fun hr hd =>
    own_kept hr fun k hk' hl => (set_block _ (hd k hk').1).trans (hk k hl (hd k hk').2)
  exact
    { c0 := World.cell?_setCell_same _ _ _ (cc 0 _ h.c0)
      c1 := (World.cell?_setCell_other _ _ _ _ (by simp)).trans (cc 1 _ h.c1)
      c2 := (World.cell?_setCell_other _ _ _ _ (by simp)).trans (cc 2 _ h.c2)
      f0 := ff 0 h.f0
      f1 := ff 1 h.f1
      f2 := ff 2 h.f2
      here := .inl h.here
      lt := fun k hf => by
        rcases hf with hf | hf
        · have := h.lt k hf; simp; omega
        · simpa using hf.2
      rL := by
        rw [List.length_append, List.length_singleton]
        exact own_kept ho fun k hk' _ => set_block _ (by have : g' = k := by simpa [Value.ownBlock] using hk'
                                                         omega)
      rW := rows h.rW fun k hk' => ⟨(h.fW k hk').2, fun e => h.dLW k e hk'⟩
      rD := rows h.rD fun k hk' => ⟨(h.fD k hk').2, fun e => h.dLD k e hk'⟩
      fL := fun k hk' => by
        have e : g' = k := by simpa [Value.ownBlock] using hk'
        subst e
        refine ⟨?_, hg'⟩
        rcases hat with e' | e'
        · exact .inl (h.fL _ e').1
        · exact .inr ⟨e', hg2⟩
      fW := fun k hk' => ⟨.inl (h.fW k hk').1, (h.fW k hk').2⟩
      fD := fun k hk' => ⟨.inl (h.fD k hk').1, (h.fD k hk').2⟩
      dLW := fun k hk' e => by
        have e' : g' = k := by simpa [Value.ownBlock] using hk'
        exact hnew k (h.lt k (h.fW k e).1) (fun e2 => h.dLW k e2 e) e'
      dLD := fun k hk' e => by
        have e' : g' = k := by simpa [Value.ownBlock] using hk'
        exact hnew k (h.lt k (h.fD k e).1) (fun e2 => h.dLD k e2 e) e'
      dWD := h.dWD
      el := fun i v' x' hv hx => by
        rcases Nat.lt_or_ge i L.length with hi | hi
        · rw [List.getElem?_append_left (by omega)] at hv
          rw [List.getElem?_append_left hi] at hx
          refine ((h.el i v' x' hv hx).kept (by simpa using hsz) fun k hk' hl => (set_block _ hk'.2.1).trans (hk k hl hk'.2.2.1)).wider fun k hk' => ⟨.inl hk'.1, hk'.2.1, fun e => hnew k (h.lt k hk'.1) hk'.2.2.1 (by simpa [Value.ownBlock] using e), hk'.2.2.2.1, hk'.2.2.2.2⟩
        · rw [List.getElem?_append_right (by omega), hes] at hv
          rw [List.getElem?_append_right hi] at hx
          have hi0 : i - L.length = 0 := by
            rcases Nat.eq_zero_or_pos (i - L.length) with h0 | h0
            · exact h0
            · rw [List.getElem?_eq_none (by simp; omega)] at hx; cases hx
          rw [hi0] at hv hx
          simp at hv hx
          subst hv hx
          refine (hel.kept (by simp) fun k hk' hl => set_block _ (by omega)).wider fun k hk' => ⟨.inr ⟨hk'.1, hk'.2.1⟩, by omega, fun e => hk'.2.2 (by simpa [Value.ownBlock] using e.symm), fun e => ?_, fun e => ?_⟩
          · have := h.lt k (h.fW k e).1; omega
          · have := h.lt k (h.fD k e).1; omega }
end

/-- where the page's own book is left -/
def RefTo (g : Nat) (F : Nat → Prop) (L : List (List Int)) (S : List (Int × Int)) (w w' : World) : Prop :=
  ∃ F' : Nat → Prop, IsRef w' g F' L S ∧ Touch F w w' ∧ ∀ k, F' k → F k ∨ w.heap.size ≤ k

end Go.Proofs.Ytcfnomnhameleaa
/-
  The page's own book: its calls that put something in.
-/
namespace Go.Proofs.Ytcfnomnhameleaa
open Go.RowKit

theorem info_u8s : (Try.prog.info? 60).map (fun i => (i.zero, i.size, i.bytes)) = some (some (.slice none 0 0), 1, 24) := by kernel_rfl
theorem grown_alloc {w w2 : World} {o : Obj} {row : Option Nat} (hg : (w.alloc o).grownBy w2 row) : w.heap.size ≤ w2.heap.size ∧ ∀ k, k < w.heap.size → row ≠ some k → w2.heap[k]? = w.heap[k]? :=
  ⟨Nat.le_trans (by simp) hg.size, fun k hk hn => (hg.block k (by simp; omega) (fun e => hn e.symm)).trans (Below.heap_alloc w o k hk)⟩
theorem at_or {w : World} {p : Prop} {g : Nat} (h : p ∨ g = w.heap.size + 1) : p ∨ w.heap.size ≤ g := h.imp id fun e => by omega
theorem RefTo.refl {g : Nat} {F : Nat → Prop} {L : List (List Int)} {S : List (Int × Int)} {w : World} (h : IsRef w g F L S) : RefTo g F L S w w := ⟨F, h, Touch.refl _ _, fun _ h => .inl h⟩
theorem RefTo.below {g : Nat} {F : Nat → Prop} {L : List (List Int)} {S : List (Int × Int)} {w w' : World} (h : IsRef w g F L S) (hb : Below w.heap.size w w') : RefTo g F L S w w' := ⟨F, h.below hb, Touch.of hb, fun _ h => .inl h⟩

theorem ref_sign {w : World} {g : Nat} {F : Nat → Prop} {L : List (List Int)} {S : List (Int × Int)} {who d : Int} {a b c : Value} {es : List Value} (h : RefB w g F L (S.map Prod.fst ++ [who]) (S.map Prod.snd ++ [d]) a b c es) : IsRef w g F L (S ++ [(who, d)]) :=
  ⟨a, b, c, es, by rw [List.map_append, List.map_append]; exact h⟩
theorem rsign_form {F : Nat → Prop} (g : Nat) (L : List (List Int)) (S : List (Int × Int)) (who d : Int) (w : World) (h : IsRef w g F L S) (hw : ¬ (1 ≤ who ∧ who ≤ 16)) :
    Calls Try.prog 21 #[.pointer (some ⟨g, 0, none⟩), .int .i64 who, .int .i64 d] w fun e w' => e = .returned (.int .i64 1) ∧ RefTo g F L S w w' := by
  by_cases h1 : who < 1
  · clear hw
    go_enter Try.func21, Try.ntmps21
    go_wp2
    go_ret
    exact ⟨rfl, .refl h⟩
  · have h2 : 16 < who := by omega
    clear hw
    go_enter Try.func21, Try.ntmps21
    go_wp2
    go_ret
    exact ⟨rfl, .refl h⟩

theorem rsign_none {F : Nat → Prop} (g : Nat) (L : List (List Int)) (S : List (Int × Int)) (who d : Int) (w : World) (h : IsRef w g F L S) (hw : 1 ≤ who ∧ who ≤ 16) (hd : ¬ (1 ≤ d ∧ d ≤ (L.length : Int))) :
    Calls Try.prog 21 #[.pointer (some ⟨g, 0, none⟩), .int .i64 who, .int .i64 d] w fun e w' => e = .returned (.int .i64 3) ∧ RefTo g F L S w w' := by
  have hR := RefTo.refl h
  obtain ⟨vL, vW, vD, es, h⟩ := h
  obtain ⟨nL, hnL⟩ : ∃ nL, L.length = nL := ⟨_, rfl⟩
  have c0 := h.c0
  have rL := h.rL
  rw [hnL] at hd rL
  obtain ⟨AL, cL, rfl, _, _, _, _, _⟩ := own_val rL
  have g1 : ¬ (who < 1) := by omega
  have g2 : ¬ (16 < who) := by omega
  clear h rL hnL
  by_cases h1 : d < 1
  · clear hd hw
    go_enter Try.func21, Try.ntmps21
    go_wp2
    go_ret
    exact ⟨rfl, hR⟩
  · have h2 : (nL : Int) < d := by omega
    clear hd hw
    go_enter Try.func21, Try.ntmps21
    go_wp2
    go_ret
    exact ⟨rfl, hR⟩

set_option maxHeartbeats 1000000 in
theorem rsign_ok {F : Nat → Prop} (g : Nat) (L : List (List Int)) (S : List (Int × Int)) (who d : Int) (w : World) (h : IsRef w g F L S) (hw : 1 ≤ who ∧ who ≤ 16) (hd : 1 ≤ d ∧ d ≤ (L.length : Int)) (hS : S.length ≤ 1000) :
    Calls Try.prog 21 #[.pointer (some ⟨g, 0, none⟩), .int .i64 who, .int .i64 d] w fun e w' => e = .returned (.int .i64 0) ∧ RefTo g F L (S ++ [(who, d)]) w w' := by
  obtain ⟨vL, vW, vD, es, h⟩ := h
  have HREF := Lib.hid h
  obtain ⟨nL, hnL⟩ : ∃ nL, L.length = nL := ⟨_, rfl⟩
  obtain ⟨nS, hnS⟩ : ∃ nS, S.length = nS := ⟨_, rfl⟩
  have c0 := h.c0
  have c1 := h.c1
  have rL := h.rL
  have rW := h.rW
  rw [hnL] at hd rL
  rw [List.length_map, hnS] at rW
  rw [hnS] at hS
  obtain ⟨AL, cL, rfl, _, _, _, _, _⟩ := own_val rL
  obtain ⟨AW, cW, rfl, _, _, _, _, _⟩ := own_val rW
  have g1 : ¬ (who < 1) := by omega
  have g2 : ¬ (16 < who) := by omega
  have g3 : ¬ (d < 1) := by omega
  have g4 : ¬ ((nL : Int) < d) := by omega
  have HNS := Lib.hid hnS
  have HRW := Lib.hid rW
  clear h rL rW hnL hnS hd hw
  go_enter Try.func21, Try.ntmps21
  go_wp2_with (at_builtin; refine wpList_app_lies _ rfl _ _ 22 rfl 0 3 (.int .i64 0) 8 Try.underlying22 info_i64 rfl (by decide) _ nS _ rfl (HRW.out.alloc _) w.heap.size (.int .i64 who) rfl (cell_new _ _ _) rfl (by omega) (by omega) ?_)
  intro g' c' w2 ho2 hg2 hat2
  obtain ⟨hs2, hk2⟩ := grown_alloc hg2
  have ho2' := own_conv (n' := nS + 1) ho2 (ys := i64s (S.map Prod.fst ++ [who])) (by simp [i64s]) rfl
  have t2 : Touch F w w2 := (Touch.of ((Below.refl _ _).alloc (Nat.le_refl _) _)).trans (Touch.grown (F := F) hg2 (fun k e => (HREF.out.fW k e).1)) (fun k hf => .inl hf)
  have hgb := hk2 g (HREF.out.lt g HREF.out.here) (fun e => (HREF.out.fW g e).2 rfl)
  have k1 := (World.cell?_of_block (a := ⟨g, 1, none⟩) hgb).trans HREF.out.c1
  have kf := (World.frozen?_of_block (a := ⟨g, 1, none⟩) hgb).trans HREF.out.f1
  have R3 := HREF.out.putW hs2 hk2 (by rw [List.length_append, List.length_map, HNS.out]; rfl) ho2' (at_or hat2)
  have t3 := t2.set (b := g) (o := 1) (.inl HREF.out.here) (.slice (some ⟨g', 0, none⟩) (nS + 1) c')
  clear ho2 ho2' hg2 hat2 hk2 hgb t2 c0 c1
  go_upto_region 6 with fail
  obtain ⟨w3, hw3⟩ : ∃ w3, w3 = w2.setCell ⟨g, 1, none⟩ (.slice (some ⟨g', 0, none⟩) (nS + 1) c') := ⟨_, rfl⟩
  rw [← hw3] at R3 t3 ⊢
  clear hw3 k1 kf
  have c2 := R3.c2
  have rD := R3.rD
  rw [List.length_map, HNS.out] at rD
  obtain ⟨AD, cD, rfl, _, _, _, _, _⟩ := own_val rD
  have HR3 := Lib.hid R3
  have HRD := Lib.hid rD
  clear R3 rD
  go_wp2_with (at_builtin; refine wpList_app_lies _ rfl _ _ 22 rfl 0 3 (.int .i64 0) 8 Try.underlying22 info_i64 rfl (by decide) _ nS _ rfl (HRD.out.alloc _) w3.heap.size (.int .i64 d) rfl (cell_new _ _ _) rfl (by omega) (by omega) ?_)
  intro g5 c5 w5 ho5 hg5 hat5
  obtain ⟨hs5, hk5⟩ := grown_alloc hg5
  have ho5' := own_conv (n' := nS + 1) ho5 (ys := i64s (S.map Prod.snd ++ [d])) (by simp [i64s]) rfl
  have t5 := (Touch.of (F := fun k => F k ∨ (w.heap.size ≤ k ∧ k < w2.heap.size)) ((Below.refl w3.heap.size w3).alloc (Nat.le_refl _) _)).trans (Touch.grown (F := fun k => F k ∨ (w.heap.size ≤ k ∧ k < w2.heap.size)) hg5 (fun k e => (HR3.out.fD k e).1)) (fun k hf => .inl hf)
  have hgb := hk5 g (HR3.out.lt g HR3.out.here) (fun e => (HR3.out.fD g e).2 rfl)
  have k1 := (World.cell?_of_block (a := ⟨g, 2, none⟩) hgb).trans HR3.out.c2
  have kf := (World.frozen?_of_block (a := ⟨g, 2, none⟩) hgb).trans HR3.out.f2
  have R6 := HR3.out.putD hs5 hk5 (by rw [List.length_append, List.length_map, HNS.out]; rfl) ho5' (at_or hat5)
  have t6 := t5.set (b := g) (o := 2) (.inl HR3.out.here) (.slice (some ⟨g5, 0, none⟩) (nS + 1) c5)
  clear ho5 ho5' hg5 hat5 hk5 hgb t5 c2
  go_wp2_with fail
  go_ret
  refine ⟨rfl, _, ref_sign R6, t3.trans t6 (fun k hf => hf.imp id (fun h => h.1)), fun k hf => ?_⟩
  rcases hf with hf | hf
  · exact hf.imp id (fun h => h.1)
  · exact .inr (Nat.le_trans t3.size hf.1)

theorem copyb_wp {w : World} {o : Oper} {a : Act} {K : Act → World → Prop} {Q : Exit → Act → World → Prop} {s : Nat} {t : TypeId} {v : Value} (ho : o.op = .call { callee := .value (.func 64), args := #[.tmp s], argTypes := #[t] }) (hs : a.tmps[s]? = some v) {R : Ending → World → Prop} (hc : Calls Try.prog 64 #[v] w R)
    (h : ∀ e w', R e w' → ∃ u, e = .returned u ∧ K (a.put o.dst u) w') : o.wp Try.prog a w K Q := by
  have he : a.eval (.tmp s) = v := by simp [Act.eval, hs]
  unfold Oper.wp execOp
  simp only [ho]
  go_simp
  refine hc.mono fun e w' hr => ?_
  obtain ⟨u, rfl, hk⟩ := h e w' hr
  exact hk
theorem step_copy {w : World} {ops : Array Oper} {o : Oper} {a : Act} {K : Act → World → Prop} {Q : Exit → Act → World → Prop} {E : Prop} {s : Nat} {t : TypeId} {v : Value} (hgd : o.guard = none)
    (ho : o.op = .call { callee := .value (.func 64), args := #[.tmp s], argTypes := #[t] }) (hs : a.tmps[s]? = some v) {R : Ending → World → Prop} (hc : Calls Try.prog 64 #[v] w R)
    (h : ∀ e w', R e w' → ∃ u, e = .returned u ∧ K (a.put o.dst u) w') : if Region.wanted o (yielded ops a.tmps) = true then Oper.wp Try.prog o a w K Q else E := by
  have hw : Region.wanted o (yielded ops a.tmps) = true := by simp [Region.wanted, hgd]
  rw [if_pos hw]
  exact copyb_wp ho hs hc h

/-- what a book has after bytes were put in, and their number -/
def addB (L : List (List Int)) (x : List Int) : List (List Int) := if findB L x = 0 then L ++ [x] else L
def digL (L : List (List Int)) (x : List Int) : Nat := if findB L x = 0 then L.length + 1 else findB L x
theorem drewN_below (w : World) (d : Nat) : Below w.heap.size w (w.drewN d) := below_n (Below.refl _ _) d

set_option maxHeartbeats 1000000 in
theorem rdigest_old {F : Nat → Prop} (g : Nat) (L : List (List Int)) (S : List (Int × Int)) (A : Option Addr) (c n k : Nat) (x : List Int) (w : World) (h : IsRef w g F L S) (hz : x.length = n) (hr : Rd w A (u8s x)) (hn : n ≤ 1048576) (hL : L.length ≤ 1000) (hs : ∀ y ∈ L, y.length ≤ 1073741824) (hf : findB L x = k + 1) :
    Calls Try.prog 41 #[.pointer (some ⟨g, 0, none⟩), .slice A n c] w fun e w' => e = .returned (.int .i64 ((k + 1 : Nat) : Int)) ∧ RefTo g F L S w w' := by
  have HF := Lib.hid hf
  have HZ := Lib.hid hz
  have HS := Lib.hid hs
  have j1 : ((k : Int) + 1 == 0) = false := by simp; omega
  clear hf hz hs
  go_enter Try.func41, Try.ntmps41
  go_wp2_with fail
  refine (rfind_any g L S A c n x w h HZ.out hr (by omega) hL HS.out).mono ?_
  rintro e w1 ⟨rfl, d, rfl⟩
  rw [HF.out]
  go_wp2_with fail
  go_ret
  exact ⟨by simp, RefTo.below h (drewN_below _ _)⟩

set_option maxRecDepth 100000 in
set_option maxHeartbeats 4000000 in
theorem rdigest_new {F : Nat → Prop} (g : Nat) (L : List (List Int)) (S : List (Int × Int)) (A : Option Addr) (c n : Nat) (x : List Int) (w : World) (h : IsRef w g F L S) (hz : x.length = n) (hr : Rd w A (u8s x)) (hc : n ≤ c) (hn : n ≤ 1048576) (hL : L.length ≤ 1000) (hs : ∀ y ∈ L, y.length ≤ 1073741824) (hf : findB L x = 0) :
    Calls Try.prog 41 #[.pointer (some ⟨g, 0, none⟩), .slice A n c] w fun e w' => e = .returned (.int .i64 ((L.length + 1 : Nat) : Int)) ∧ RefTo g F (L ++ [x]) S w w' := by
  have HF := Lib.hid hf
  have HZ := Lib.hid hz
  have HS := Lib.hid hs
  have hI := h
  obtain ⟨vL, vW, vD, es, h⟩ := h
  obtain ⟨nL, hnL⟩ : ∃ nL, L.length = nL := ⟨_, rfl⟩
  have rL := h.rL
  rw [hnL] at rL hL
  obtain ⟨AL, cL, rfl, _, _, _, _, _⟩ := own_val rL
  have HNL := Lib.hid hnL
  have j2 : (nL : Int) < 65536 := by omega
  have HREF := Lib.hid h
  have HRL := Lib.hid rL
  have hLL : L.length ≤ 1000 := by omega
  clear hf hz hs h rL hnL
  go_enter Try.func41, Try.ntmps41
  go_wp2_with fail
  refine (rfind_any g L S A c n x w hI HZ.out hr (by omega) hLL HS.out).mono ?_
  rintro e w1 ⟨rfl, d, rfl⟩
  rw [HF.out]
  obtain ⟨wd, hwd⟩ : ∃ wd, wd = w.drewN d := ⟨_, rfl⟩
  have HRD : Hid (RefB wd g F L (S.map Prod.fst) (S.map Prod.snd) (.slice AL nL cL) vW vD es) := by rw [hwd]; exact HREF.out.kept (Nat.le_refl _) (fun _ _ => rfl)
  have hrd : Rd wd A (u8s x) := by rw [hwd]; exact hr.drewN d
  have hbd : Below w.heap.size w wd := by rw [hwd]; exact drewN_below _ _
  have hsd : wd.heap.size = w.heap.size := by rw [hwd]; rfl
  rw [← hwd]
  have c0 := HRD.out.c0
  have f0 := HRD.out.f0
  have hgl := HRD.out.lt g HRD.out.here
  have HRLD : Hid (wd.ownsRow 0 60 1 (.slice AL nL cL) nL es) := by have := HRD.out.rL; rwa [HNL.out] at this
  have HSD := Lib.hid hsd
  clear hwd hI hr hLL hsd
  go_wp2_with fail
  go_region_law (first
    | (refine step_copy (by rfl) (by rfl) (by rfl) (copyBytes_any A c n x _ HZ.out (by first | exact hrd | exact hrd.drew) hc (by omega)) ?_; rintro e w5 ⟨v5, rfl, ho5, hb5⟩; have ho5b := own_cast ho5 ((u8s_length _).trans HZ.out); obtain ⟨A5, c5, rfl, hc5, _, hr5, _, _⟩ := own_val ho5b; refine ⟨_, rfl, ?_⟩; have k0 := (hb5.cell (p := ⟨g, 0, none⟩) hgl).trans c0; have kf := (hb5.frozen (p := ⟨g, 0, none⟩) hgl).trans f0; have hg5 : g < w5.heap.size := World.block_lt_of_cell? w5 _ k0; have ka : ∀ o, (w5.alloc o).cell? ⟨g, 0, none⟩ = some (.slice AL nL cL) := fun o => (((Below.refl w5.heap.size w5).alloc (Nat.le_refl _) o).cell (p := ⟨g, 0, none⟩) hg5).trans k0)
    | (refine step_app_lies _ (by rfl) _ _ _ (by rfl) 0 60 (.slice none 0 0) 24 Try.underlying31 info_u8s rfl (by decide) _ nL es (by rfl) ((ownS_below HRLD.out (by first | exact hb5 | exact ((Below.refl _ _).drew).trans hb5)).alloc _) w5.heap.size _ (by rfl) (cell_new _ _ _) rfl (by omega) (by omega) ?_; intro g' c' w7 ho7 hg7 hat7; have hG7 := grown_alloc hg7; have hgb := hG7.2 g (by have := hb5.size; simp at this; omega) (fun e => (HRD.out.fL g e).2 rfl); have q0 := (World.cell?_of_block (a := ⟨g, 0, none⟩) hgb).trans k0; have qf := (World.frozen?_of_block (a := ⟨g, 0, none⟩) hgb).trans kf))
  all_goals
    have b5 : Below wd.heap.size wd w5 := by first | exact hb5 | exact ((Below.refl _ _).drew).trans hb5
    have hat8 : (Value.slice AL nL cL).ownBlock = some g' ∨ g' = w5.heap.size + 1 := hat7.imp id fun e => by rw [e]; simp
    have ho5c : w5.ownsRow wd.heap.size 5 1 (.slice A5 n c5) n (u8s x) := ho5b
    have hk7 : ∀ k, k < wd.heap.size → (Value.slice AL nL cL).ownBlock ≠ some k → w7.heap[k]? = wd.heap[k]? := fun k hk hn => (hG7.2 k (Nat.lt_of_lt_of_le hk b5.size) hn).trans (b5.block k hk)
    have hA5 : ∀ a, A5 = some a → a.block < w5.heap.size ∧ wd.heap.size ≤ a.block := fun a ha => own_lt ho5c (g := a.block) (by rw [ha]; rfl)
    have hel : Elem w7 (fun k => wd.heap.size ≤ k ∧ k < w7.heap.size ∧ k ≠ g') (.slice A5 n c5) x := by
      refine ⟨A5, c5, by rw [HZ.out], by rw [HZ.out]; exact hc5, hr5.kept hG7.1 fun a ha hl => hG7.2 _ hl fun e => ?_, fun a ha => ⟨(hA5 a ha).2, Nat.lt_of_lt_of_le (hA5 a ha).1 hG7.1, fun e => ?_⟩⟩
      · have h1 := HRD.out.lt _ (HRD.out.fL _ e).1
        have h2 := (hA5 a ha).2
        omega
      · rcases hat8 with e' | e'
        · have h1 := HRD.out.lt _ (HRD.out.fL _ e').1
          have h2 := (hA5 a ha).2
          omega
        · have h2 := (hA5 a ha).1
          omega
    have R8 := HRD.out.putL (w2 := w7) (Nat.le_trans b5.size hG7.1) hk7 (by rw [HNL.out]) ho7 ((at_or hat8).imp id fun e => Nat.le_trans b5.size e) hel
    have t5 : Touch F w w5 := Touch.of (hbd.trans (b5.mono (by rw [HSD.out]; exact Nat.le_refl _)))
    have t7 := ((t5.alloc _).trans (Touch.grown (F := F) hg7 (fun k e => (HRD.out.fL k e).1)) (fun k hf => .inl hf)).set (b := g) (o := 0) (.inl HRD.out.here) (.slice (some ⟨g', 0, none⟩) (nL + 1) c')
    have HR8 := Lib.hid R8
    have HT7 := Lib.hid t7
    clear R8 t7 t5 hel hA5 hk7 ho5c b5 hG7 hgb hg7 ho7 ka ho5 ho5b hb5
    go_wp2_with fail
    go_ret
    exact ⟨by rw [HNL.out]; simp, _, ⟨_, _, _, _, HR8.out⟩, HT7.out, fun k hf => hf.imp id (fun h => by rw [HSD.out] at h; exact h.1)⟩

end Go.Proofs.Ytcfnomnhameleaa
/-
  What the statements ask of package book, call by call (all but Bytes); the program's book and the page's own side by side.
-/
namespace Go.Proofs.Ytcfnomnhameleaa
open Go.RowKit

/-- what a book is: in this world, at this block, of these blocks: this list has numbers, these have signed -/
abbrev BookIs := World → Nat → (Nat → Prop) → List (List Int) → List (Int × Int) → Prop
/-- where the program's book is left -/
def BookTo (I : BookIs) (g : Nat) (F : Nat → Prop) (L : List (List Int)) (S : List (Int × Int)) (w w' : World) : Prop :=
  ∃ F' : Nat → Prop, I w' g F' L S ∧ Touch F w w' ∧ ∀ k, F' k → F k ∨ w.heap.size ≤ k

/-- a row of bytes at a block, whatever marks it bears behind its end: it shows these, and all of it can be written -/
structure Wr (w : World) (g c n : Nat) (zs : List Int) : Prop where
  hz : zs.length = n
  hc : n ≤ c
  hm : c ≤ maxLen
  lt : g < w.heap.size
  cells : ∀ i v, (u8s zs)[i]? = some v → w.cell? ⟨g, i, none⟩ = some v
  room : ∀ i, i < c → (w.cell? ⟨g, i, none⟩).isSome = true
  thaw : ∀ i, i < c → w.frozen? ⟨g, i, none⟩ = false

section
variable {w w' : World} {g c n : Nat} {zs : List Int}
theorem Wr.rd (h : Wr w g c n zs) : Rd w (some ⟨g, 0, none⟩) (u8s zs) := fun _ => ⟨g, 0, rfl, h.lt, fun i v hv => by rw [Nat.zero_add]; exact h.cells i v hv⟩
theorem Wr.below (h : Wr w g c n zs) (hb : Below w.heap.size w w') : Wr w' g c n zs where
  hz := h.hz
  hc := h.hc
  hm := h.hm
  lt := Nat.lt_of_lt_of_le h.lt hb.size
  cells := fun i v hv => (hb.cell (p := ⟨g, i, none⟩) h.lt).trans (h.cells i v hv)
  room := fun i hi => by rw [hb.cell (p := ⟨g, i, none⟩) h.lt]; exact h.room i hi
  thaw := fun i hi => (hb.frozen (p := ⟨g, i, none⟩) h.lt).trans (h.thaw i hi)
theorem Wr.drewN (h : Wr w g c n zs) (k : Nat) : Wr (w.drewN k) g c n zs := h.below (drewN_below _ _)
theorem Wr.put (h : Wr w g c n zs) {k : Nat} {y : Int} (hk : k < n) : Wr (w.setCell ⟨g, k, none⟩ (.int .u8 y)) g c n (zs.set k y) where
  hz := by rw [List.length_set]; exact h.hz
  hc := h.hc
  hm := h.hm
  lt := by simpa using h.lt
  cells := fun i v hv => by
    rw [show u8s (zs.set k y) = (u8s zs).set k (.int .u8 y) from by simp [u8s, List.map_set]] at hv
    by_cases hik : i = k
    · subst hik
      rw [List.getElem?_set_self (by rw [u8s_length, h.hz]; exact hk)] at hv
      cases hv
      obtain ⟨u, hu⟩ := Option.isSome_iff_exists.1 (h.room i (Nat.lt_of_lt_of_le hk h.hc))
      exact World.cell?_setCell_same _ _ _ hu
    · rw [List.getElem?_set_ne (Ne.symm hik)] at hv
      exact (World.cell?_setCell_other _ _ _ _ (fun e => hik (congrArg Addr.off e).symm)).trans (h.cells i v hv)
  room := fun i hi => by
    by_cases hik : i = k
    · subst hik
      obtain ⟨u, hu⟩ := Option.isSome_iff_exists.1 (h.room i hi)
      rw [World.cell?_setCell_same _ _ _ hu]; rfl
    · rw [World.cell?_setCell_other _ _ _ _ (fun e => hik (congrArg Addr.off e).symm)]; exact h.room i hi
  thaw := fun i hi => by rw [World.frozen?_setCell]; exact h.thaw i hi
end

/-- bytes that a book is given -/
structure Given (w : World) (F : Nat → Prop) (A : Option Addr) (c n : Nat) (x : List Int) : Prop where
  hz : x.length = n
  hr : Rd w A (u8s x)
  hy : Byts x
  hc : n ≤ c
  hm : c ≤ maxLen
  hn : n ≤ 1000000
  apart : ∀ a, A = some a → 0 < n → ¬ F a.block

structure BookK (I : BookIs) : Prop where
  lt : ∀ {w g F L S}, I w g F L S → ∀ k, F k → k < w.heap.size
  kept : ∀ {w w' g F L S}, I w g F L S → w.heap.size ≤ w'.heap.size → (∀ k, F k → w'.heap[k]? = w.heap[k]?) → I w' g F L S
  new : ∀ w, Calls Try.prog 16 #[] w fun e w' => ∃ g F, e = .returned (.pointer (some ⟨g, 0, none⟩)) ∧ I w' g F [] [] ∧ (∀ k, F k → w.heap.size ≤ k) ∧ Below w.heap.size w w'
  digest_old : ∀ {F : Nat → Prop} (g : Nat) (L : List (List Int)) (S : List (Int × Int)) (A : Option Addr) (c n k : Nat) (x : List Int) (w : World), I w g F L S → Given w F A c n x → L.length ≤ 1000 → findB L x = k + 1 →
    Calls Try.prog 30 #[.pointer (some ⟨g, 0, none⟩), .slice A n c] w fun e w' => e = .returned (.tuple #[.int .i64 ((k + 1 : Nat) : Int), .int .i64 0]) ∧ BookTo I g F L S w w'
  digest_new : ∀ {F : Nat → Prop} (g : Nat) (L : List (List Int)) (S : List (Int × Int)) (A : Option Addr) (c n : Nat) (x : List Int) (w : World), I w g F L S → Given w F A c n x → L.length ≤ 1000 → findB L x = 0 →
    Calls Try.prog 30 #[.pointer (some ⟨g, 0, none⟩), .slice A n c] w fun e w' => e = .returned (.tuple #[.int .i64 ((L.length + 1 : Nat) : Int), .int .i64 0]) ∧ BookTo I g F (L ++ [x]) S w w'
  find_yes : ∀ {F : Nat → Prop} (g : Nat) (L : List (List Int)) (S : List (Int × Int)) (A : Option Addr) (c n k : Nat) (x : List Int) (w : World), I w g F L S → Given w F A c n x → L.length ≤ 1000 → findB L x = k + 1 →
    Calls Try.prog 56 #[.pointer (some ⟨g, 0, none⟩), .slice A n c] w fun e w' => e = .returned (.tuple #[.int .i64 ((k + 1 : Nat) : Int), .int .i64 0]) ∧ BookTo I g F L S w w'
  find_no : ∀ {F : Nat → Prop} (g : Nat) (L : List (List Int)) (S : List (Int × Int)) (A : Option Addr) (c n : Nat) (x : List Int) (w : World), I w g F L S → Given w F A c n x → L.length ≤ 1000 → findB L x = 0 →
    Calls Try.prog 56 #[.pointer (some ⟨g, 0, none⟩), .slice A n c] w fun e w' => e = .returned (.tuple #[.int .i64 0, .int .i64 3]) ∧ BookTo I g F L S w w'
  count : ∀ {F : Nat → Prop} (g : Nat) (L : List (List Int)) (S : List (Int × Int)) (w : World), I w g F L S → L.length ≤ 1000 →
    Calls Try.prog 27 #[.pointer (some ⟨g, 0, none⟩)] w fun e w' => e = .returned (.int .i64 L.length) ∧ ∃ d, w' = w.drewN d
  sign_form : ∀ {F : Nat → Prop} (g : Nat) (L : List (List Int)) (S : List (Int × Int)) (who d : Int) (w : World), I w g F L S → L.length ≤ 1000 → S.length ≤ 1000 → ¬ (1 ≤ who ∧ who ≤ 16) →
    Calls Try.prog 20 #[.pointer (some ⟨g, 0, none⟩), .int .i64 who, .int .i64 d] w fun e w' => e = .returned (.int .i64 1) ∧ BookTo I g F L S w w'
  sign_none : ∀ {F : Nat → Prop} (g : Nat) (L : List (List Int)) (S : List (Int × Int)) (who d : Int) (w : World), I w g F L S → L.length ≤ 1000 → S.length ≤ 1000 → 1 ≤ who ∧ who ≤ 16 → ¬ (1 ≤ d ∧ d ≤ (L.length : Int)) →
    Calls Try.prog 20 #[.pointer (some ⟨g, 0, none⟩), .int .i64 who, .int .i64 d] w fun e w' => e = .returned (.int .i64 3) ∧ BookTo I g F L S w w'
  sign_ok : ∀ {F : Nat → Prop} (g : Nat) (L : List (List Int)) (S : List (Int × Int)) (who d : Int) (w : World), I w g F L S → L.length ≤ 1000 → S.length ≤ 1000 → 1 ≤ who ∧ who ≤ 16 → 1 ≤ d ∧ d ≤ (L.length : Int) →
    Calls Try.prog 20 #[.pointer (some ⟨g, 0, none⟩), .int .i64 who, .int .i64 d] w fun e w' => e = .returned (.int .i64 0) ∧ BookTo I g F L (S ++ [(who, d)]) w w'
  signed : ∀ {F : Nat → Prop} (g : Nat) (L : List (List Int)) (S : List (Int × Int)) (who d : Int) (w : World), I w g F L S → L.length ≤ 1000 → S.length ≤ 1000 → (-9223372036854775808 ≤ who ∧ who ≤ 9223372036854775807) → (-9223372036854775808 ≤ d ∧ d ≤ 9223372036854775807) →
    Calls Try.prog 92 #[.pointer (some ⟨g, 0, none⟩), .int .i64 who, .int .i64 d] w fun e w' => e = .returned (.bool (signedB S who d)) ∧ ∃ m, w' = w.drewN m

section
variable {I : BookIs} {B gb gr : Nat} {F : Nat → Prop} {L L' : List (List Int)} {S S' : List (Int × Int)} {w w' : World}

/-- the program's book alone, above a base -/
def One (I : BookIs) (B gb : Nat) (L : List (List Int)) (S : List (Int × Int)) (w : World) : Prop := ∃ F, I w gb F L S ∧ ∀ k, F k → B ≤ k
/-- both, apart from each other -/
def Pair (I : BookIs) (B gb gr : Nat) (F G : Nat → Prop) (L L' : List (List Int)) (S S' : List (Int × Int)) (w : World) : Prop :=
  (I w gb F L S ∧ ∀ k, F k → B ≤ k) ∧ (IsRef w gr G L' S' ∧ ∀ k, G k → B ≤ k) ∧ ∀ k, F k → ¬ G k

variable {G : Nat → Prop}
theorem Pair.below (K : BookK I) (h : Pair I B gb gr F G L L' S S' w) (hb : Below w.heap.size w w') : Pair I B gb gr F G L L' S S' w' :=
  ⟨⟨K.kept h.1.1 hb.size fun k hk => hb.block k (K.lt h.1.1 k hk), h.1.2⟩, ⟨h.2.1.1.below hb, h.2.1.2⟩, h.2.2⟩
theorem Pair.touch (K : BookK I) (h : Pair I B gb gr F G L L' S S' w) {T : Nat → Prop} (ht : Touch T w w') (hT : ∀ k, T k → ¬ F k ∧ ¬ G k) : Pair I B gb gr F G L L' S S' w' :=
  ⟨⟨K.kept h.1.1 ht.size fun k hk => ht.block k (K.lt h.1.1 k hk) fun hf => (hT k hf).1 hk, h.1.2⟩, ⟨h.2.1.1.kept ht.size fun k hk => ht.block k (h.2.1.1.lt k hk) fun hf => (hT k hf).2 hk, h.2.1.2⟩, h.2.2⟩
theorem Pair.left {L2 : List (List Int)} {S2 : List (Int × Int)} {F' : Nat → Prop} (h : Pair I B gb gr F G L L' S S' w) (hB : B ≤ w.heap.size) (hi : I w' gb F' L2 S2) (ht : Touch F w w') (hf : ∀ k, F' k → F k ∨ w.heap.size ≤ k) : Pair I B gb gr F' G L2 L' S2 S' w' :=
  ⟨⟨hi, fun k hk => by rcases hf k hk with e | e; exact h.1.2 k e; omega⟩, ⟨h.2.1.1.kept ht.size fun k hk => ht.block k (h.2.1.1.lt k hk) fun hf => h.2.2 k hf hk, h.2.1.2⟩, fun k hk hg => by
    rcases hf k hk with e | e
    · exact h.2.2 k e hg
    · have := h.2.1.1.lt k hg; omega⟩
theorem Pair.right (K : BookK I) {L2 : List (List Int)} {S2 : List (Int × Int)} {G' : Nat → Prop} (h : Pair I B gb gr F G L L' S S' w) (hB : B ≤ w.heap.size) (hi : IsRef w' gr G' L2 S2) (ht : Touch G w w') (hf : ∀ k, G' k → G k ∨ w.heap.size ≤ k) : Pair I B gb gr F G' L L2 S S2 w' :=
  ⟨⟨K.kept h.1.1 ht.size fun k hk => ht.block k (K.lt h.1.1 k hk) fun hg => h.2.2 k hk hg, h.1.2⟩, ⟨hi, fun k hk => by rcases hf k hk with e | e; exact h.2.1.2 k e; omega⟩, fun k hk hg => by
    rcases hf k hg with e | e
    · exact h.2.2 k hk e
    · have := K.lt h.1.1 k hk; omega⟩
end

theorem rd_marked (w : World) (cs : List Value) (t : TypeId) (fr : Nat × Nat) : Rd (w.alloc (.cells cs.toArray t fr)) (some ⟨w.heap.size, 0, none⟩) cs := fun _ =>
  ⟨w.heap.size, 0, rfl, by simp, fun i v hv => by
    have hb : (w.alloc (.cells cs.toArray t fr)).heap[w.heap.size]? = some (.cells cs.toArray t fr) := heap_alloc_new w _
    rw [Nat.zero_add]
    simp only [World.cell?, hb]
    simpa using hv⟩
theorem quiet_leftK {P : Program} {f : FuncId} {args : Array Value} {w : World} {n : Nat} {v : Value}
    (h : Calls P f args (w.drewN n) fun e w' => e = .returned v ∧ w.drewN n = w') : Calls P f args (w.drewN n) fun e w'' => e = .returned v ∧ ∃ m, w'' = w.drewN m :=
  h.mono fun _ _ ⟨he, hm⟩ => ⟨he, n, hm.symm⟩
theorem quiet_more {P : Program} {f : FuncId} {args : Array Value} {w : World} {n : Nat} {v : Value}
    (h : Calls P f args (w.drewN n) fun e w' => e = .returned v ∧ ∃ d, w' = (w.drewN n).drewN d) : Calls P f args (w.drewN n) fun e w'' => e = .returned v ∧ ∃ m, w'' = w.drewN m :=
  h.mono fun _ _ ⟨he, d, hm⟩ => ⟨he, n + d, hm.trans (World.drewN_drewN _ _ _)⟩
theorem BookK.drewN {I : BookIs} (K : BookK I) {w : World} {g : Nat} {F : Nat → Prop} {L : List (List Int)} {S : List (Int × Int)} (h : I w g F L S) (n : Nat) : I (w.drewN n) g F L S := K.kept h (Nat.le_refl _) fun _ _ => rfl
theorem BookK.drew {I : BookIs} (K : BookK I) {w : World} {g : Nat} {F : Nat → Prop} {L : List (List Int)} {S : List (Int × Int)} (h : I w g F L S) : I w.drew g F L S := K.kept h (Nat.le_refl _) fun _ _ => rfl
theorem IsRef.drewN {w : World} {g : Nat} {F : Nat → Prop} {L : List (List Int)} {S : List (Int × Int)} (h : IsRef w g F L S) (n : Nat) : IsRef (w.drewN n) g F L S := h.kept (Nat.le_refl _) fun _ _ => rfl

theorem Pair.drewN {I : BookIs} (K : BookK I) {B gb gr : Nat} {F G : Nat → Prop} {L L' : List (List Int)} {S S' : List (Int × Int)} {w : World} (h : Pair I B gb gr F G L L' S S' w) (n : Nat) : Pair I B gb gr F G L L' S S' (w.drewN n) := h.below K (drewN_below _ _)


end Go.Proofs.Ytcfnomnhameleaa
