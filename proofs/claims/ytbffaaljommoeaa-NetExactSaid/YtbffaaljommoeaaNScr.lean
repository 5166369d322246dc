/-
  What a statement on nets is asked: acts; as they lie in memory, and as they come in.
-/
import Derived.Test.YtbffaaljommoeaaNCodeC
import Derived.Test.YtbffaaljommoeaaOpen
import Derived.Test.YtbffaaljommoeaaEqs
import Derived.BigQuiet
namespace Go.Proofs.Ytbffaaljommoeaa
open Go.RowKit Go.ChangeShapes Go.WideShapes Go.Deep

/-- an act: its numbers, its bytes -/
structure ActN where
  Do : Int
  f : Int
  t : Int
  k : Int
  A : Option Addr
  n : Nat
  c : Nat
  bs : List Int
def ActN.cells (a : ActN) : List Value := [.int .i64 a.Do, .int .i64 a.f, .int .i64 a.t, .int .i64 a.k, .slice a.A a.n a.c]
def cellsN (l : List ActN) : List Value := l.flatMap ActN.cells
theorem cellsN_length (l : List ActN) : (cellsN l).length = l.length * 5 := by
  induction l with
  | nil => rfl
  | cons m ms ih => simp only [cellsN, List.flatMap_cons, List.length_append] at ih ⊢; rw [ih]; simp [ActN.cells]; omega
theorem cellsN_at : ∀ {l : List ActN} {i : Nat} {a : ActN}, l[i]? = some a → ∀ {j : Nat} {v : Value}, a.cells[j]? = some v → (cellsN l)[i * 5 + j]? = some v
  | [], _, _, h, _, _, _ => by simp at h
  | x :: l, 0, a, h, j, v, hv => by
    simp at h
    subst h
    show (x.cells ++ cellsN l)[0 * 5 + j]? = some v
    rw [Nat.zero_mul, Nat.zero_add, List.getElem?_append_left (List.getElem?_eq_some_iff.1 hv).1]
    exact hv
  | x :: l, i + 1, a, h, j, v, hv => by
    have ih := cellsN_at (l := l) (i := i) (by simpa using h) hv
    show (x.cells ++ cellsN l)[(i + 1) * 5 + j]? = some v
    have e : x.cells.length = 5 := rfl
    rw [List.getElem?_append_right (by rw [e]; omega), e, show (i + 1) * 5 + j - 5 = i * 5 + j by omega]
    exact ih
structure ActNIn (w : World) (a : ActN) : Prop where
  z : a.bs.length = a.n
  r : Rd w a.A (u8s a.bs)
  kc : a.n ≤ a.c
  xc : a.c ≤ maxLen
  y : Byts a.bs
  fn : a.n ≤ 140737488351232
  wD : Fit a.Do
  wf : Fit a.f
  wt : Fit a.t
  wk : Fit a.k
theorem ActNIn.below {w w' : World} {a : ActN} (h : ActNIn w a) (hb : Below w.heap.size w w') : ActNIn w' a := ⟨h.z, h.r.below hb, h.kc, h.xc, h.y, h.fn, h.wD, h.wf, h.wt, h.wk⟩

/-- the acts, as they lie -/
structure ScrN (w : World) (A : Option Addr) (n c : Nat) (L : List ActN) : Prop where
  z : L.length = n
  r : Rd w A (cellsN L)
  kc : n ≤ c
  xc : c ≤ maxLen
  act : ∀ a ∈ L, ActNIn w a
theorem ScrN.below {w w' : World} {A : Option Addr} {n c : Nat} {L : List ActN} (h : ScrN w A n c L) (hb : Below w.heap.size w w') : ScrN w' A n c L := ⟨h.z, h.r.below hb, h.kc, h.xc, fun a ha => (h.act a ha).below hb⟩
theorem ScrN.at_ {w : World} {A : Option Addr} {n c : Nat} {L : List ActN} (h : ScrN w A n c L) {k : Nat} (hk : k < n) : ∃ (b off : Nat) (a : ActN), A = some ⟨b, off, none⟩ ∧ b < w.heap.size ∧ L[k]? = some a ∧ a ∈ L ∧ w.rangeAt b (off + k * 5) a.cells := by
  have hk' : k < L.length := by rw [h.z]; exact hk
  obtain ⟨x, hx⟩ : ∃ x, L[k]? = some x := ⟨L[k], by simp [hk']⟩
  obtain ⟨b, off, e, hbl, hc⟩ := h.r.open_ (by rw [cellsN_length]; omega)
  refine ⟨b, off, x, e, hbl, hx, List.mem_of_getElem? hx, fun j v hv => ?_⟩
  have := hc _ v (cellsN_at hx hv)
  rw [Nat.add_assoc]
  exact this

theorem cells_actN : Try.prog.cellsOf 32 = 5 := by kernel_rfl
theorem size_actN : (Try.prog.info? 32).map (·.size) = some 5 := by kernel_rfl
theorem bytes_u8N : Try.prog.bytesOf 5 = 1 := by kernel_rfl

theorem list_uptoN {α : Type} {P : Nat → α → Prop} : ∀ {n : Nat}, (∀ i, i < n → ∃ a, P i a) → ∃ L : List α, L.length = n ∧ ∀ i x, L[i]? = some x → P i x
  | 0, _ => ⟨[], rfl, fun i x hx => by simp at hx⟩
  | n + 1, h => by
    obtain ⟨L, hl, hL⟩ := list_uptoN (n := n) fun i hi => h i (by omega)
    obtain ⟨x, hx⟩ := h n (by omega)
    refine ⟨L ++ [x], by simp [hl], fun i y hy => ?_⟩
    rcases Nat.lt_or_ge i n with hi | hi
    · exact hL i y (by rwa [List.getElem?_append_left (by omega)] at hy)
    · rw [List.getElem?_append_right (by omega), hl] at hy
      have h0 : i - n = 0 := by
        rcases Nat.eq_zero_or_pos (i - n) with h0 | h0
        · exact h0
        · rw [List.getElem?_eq_none (by simp; omega)] at hy; cases hy
      rw [h0] at hy
      simp at hy
      have : i = n := by omega
      subst this hy
      exact hx
theorem cellsN_of {l : List ActN} {i : Nat} {v : Value} (h : (cellsN l)[i]? = some v) : ∃ a, l[i / 5]? = some a ∧ a.cells[i % 5]? = some v := by
  have hl : i < l.length * 5 := by
    rcases Nat.lt_or_ge i (cellsN l).length with h' | h'
    · rwa [cellsN_length] at h'
    · rw [List.getElem?_eq_none h'] at h; cases h
  obtain ⟨a, ha⟩ : ∃ a, l[i / 5]? = some a := ⟨l[i / 5]'(by omega), by simp [show i / 5 < l.length by omega]⟩
  refine ⟨a, ha, ?_⟩
  obtain ⟨u, hu⟩ : ∃ u, a.cells[i % 5]? = some u := ⟨a.cells[i % 5]'(by show i % 5 < 5; omega), by simp [show i % 5 < a.cells.length by show i % 5 < 5; omega]⟩
  have e := cellsN_at ha hu
  rw [show i / 5 * 5 + i % 5 = i by omega, h] at e
  rw [hu, e]

set_option maxRecDepth 100000 in
set_option maxHeartbeats 4000000 in
theorem open_actsN {H : Type} {enc : TypeId × Value → H} {w : World} {base : Nat} {spare : Nat → Bool} {held : Bool} {fuel : Nat} {v : Value} {x : DataW H × List MemPlace}
    (h : DataW.trod enc Try.prog w base spare held fuel 22 [v] = some x) (hw : ∀ n ∈ x.1.weights Try.prog 22, n ≤ reachBytes) :
    ∃ (A : Option Addr) (c : Nat) (l : List ActN), v = .slice A l.length c ∧ l.length ≤ c ∧ c ≤ maxLen ∧ Rd w A (cellsN l) ∧ ∀ a ∈ l, ActNIn w a := by
  rcases open_slice Try.underlying22 h with ⟨h0, _⟩ | ⟨ad, len, cap, m, n, D, Pl, h0, _, hl, hm, hmm, hz, hi⟩
  · simp only [List.cons.injEq, and_true] at h0
    subst h0
    exact ⟨none, 0, [], rfl, by simp, by simp [maxLen], Rd.nil _ _, fun t ht => by simp at ht⟩
  · simp only [List.cons.injEq, and_true] at h0
    subst h0
    obtain ⟨L, hL, hLe⟩ := list_uptoN (α := ActN) (P := fun i a => ActNIn w a ∧ ∀ j u, a.cells[j]? = some u → w.cell? (ad.add (i * 5 + j)) = some u) (n := len) fun i hil => by
      have him : i < m := by rw [hmm]; split <;> omega
      obtain ⟨cs, hc, ht⟩ := hi i him
      rw [cells_actN] at hc
      obtain ⟨_, hcl, hat⟩ := World.cells?_some hc
      obtain ⟨ys, n', _, hag, hlen, hyl, hf⟩ := DataW.trod_struct Try.underlying32 ht
      match cs, hcl with
      | [c0, c1, c2, c3, c4], _ =>
        match ys, hyl with
        | [y0, y1, y2, y3, y4], _ =>
          have f0 := hf 0 _ rfl
          have f1 := hf 1 _ rfl
          have f2 := hf 2 _ rfl
          have f3 := hf 3 _ rfl
          have f4 := hf 4 _ rfl
          simp [cells_u8s, cells_int] at f0 f1 f2 f3 f4
          have hD : D i = .agg [y0.1, y1.1, y2.1, y3.1, y4.1] := by
            have := congrArg Prod.fst hag
            simpa using this
          have hwi : ∀ n ∈ (D i).weights Try.prog 32, n ≤ reachBytes := fun n hn => hw n (by
            rw [hz]
            exact weights_slice Try.underlying22 (List.mem_map.2 ⟨i, List.mem_range.2 hil, rfl⟩) hn)
          have hwm : ∀ (j : Nat) (t : TypeId) (e : DataW H), [y0.1, y1.1, y2.1, y3.1, y4.1][j]? = some e → [3, 3, 3, 3, 30][j]? = some t → ∀ n ∈ e.weights Try.prog t, n ≤ reachBytes := fun j t e he ht n hn => hwi n (by
            rw [hD, DataW.weights, Try.underlying32]
            exact DataW.weights_mem_each (j := j) (t := t) (d := e) ht he n hn)
          obtain ⟨rD, e0, _, wD⟩ := DataW.trod_int Try.underlying3 f0
          obtain ⟨r1, e1, _, w1⟩ := DataW.trod_int Try.underlying3 f1
          obtain ⟨r2, e2, _, w2⟩ := DataW.trod_int Try.underlying3 f2
          obtain ⟨r3, e3, _, w3⟩ := DataW.trod_int Try.underlying3 f3
          obtain ⟨AB, cB, zs, e4, hn4, hc4, hr4, hwf4, hfit4⟩ := open_nums_fit Try.underlying30 Try.underlying5 cells_u8 bytes_u8N (by decide) f4 (hwm 4 30 y4.1 rfl rfl)
          simp at e0 e1 e2 e3 e4
          subst e0 e1 e2 e3 e4
          refine ⟨⟨rD, r1, r2, r3, AB, zs.length, cB, zs⟩, ⟨rfl, hr4, hn4, hc4, fun x hx => wf_u8 (hwf4 x hx), hfit4, wf_i64 wD, wf_i64 w1, wf_i64 w2, wf_i64 w3⟩, fun j u hu => ?_⟩
          rw [← Addr.add_add, hat j (by
            rcases Nat.lt_or_ge j 5 with h' | h'
            · exact h'
            · rw [List.getElem?_eq_none (by simp [ActN.cells]; omega)] at hu; cases hu)]
          exact hu
    refine ⟨some ad, cap, L, by rw [hL], by omega, hm, rd_of fun i u hu => ?_, fun t ht => ?_⟩
    · obtain ⟨t, h1, h2⟩ := cellsN_of hu
      have := (hLe _ _ h1).2 _ _ h2
      rwa [show i / 5 * 5 + i % 5 = i by omega] at this
    · obtain ⟨i, hi'⟩ := List.getElem?_of_mem ht
      exact (hLe _ _ hi').1

theorem open_scrN {H : Type} {enc : TypeId × Value → H} {w : World} {r : Reach} {b0 base : Nat} {spare : Nat → Bool} {held : Bool} {v : Value} {d : DataW H} {ps : List MemPlace}
    (hv : Value.okWide Try.prog w r b0 22 v) (h : DataW.Trod enc Try.prog w base spare held 22 v d ps) (hw : ∀ n ∈ d.weights Try.prog 22, n ≤ reachBytes) :
    ∃ (A : Option Addr) (n c : Nat) (L : List ActN), v = .slice A n c ∧ ScrN w A n c L := by
  obtain ⟨a0, len, cap, rfl⟩ := okWide_slice Try.underlying22 hv
  obtain ⟨fuel, hf⟩ := h
  have hf' : DataW.trod enc Try.prog w base spare held fuel 22 [.slice a0 len cap] = some (d, ps) := hf
  obtain ⟨A, c, L, e, h1, h2, h3, h4⟩ := open_actsN (x := (d, ps)) hf' hw
  exact ⟨A, L.length, c, L, e, ⟨rfl, h3, h1, h2, h4⟩⟩

/-! ### what is let go -/
def LightN (L : List ActN) : Prop := ∀ (j : Nat) (a : ActN), j < 60 → L[j]? = some a → a.n ≤ 10000
def HeavyN (L : List ActN) (w : World) (e : Ending) (w' : World) : Prop := ∃ b : Bool, e = .returned (.bool b) ∧ w = w' ∧ (b = false → LightN L)

theorem num12_any (n : Int) (w : World) : Calls Try.prog 11 #[.int .i64 n] w fun e w' => e = .returned (.int .i64 n) ∧ w = w' := by
  go_enter Try.func11, Try.ntmps11
  go_wp2
  go_ret
  exact ⟨rfl, rfl⟩

set_option maxRecDepth 100000 in
set_option maxHeartbeats 4000000 in
theorem heavy12_any (A : Option Addr) (n c : Nat) (L : List ActN) (w : World) (h : ScrN w A n c L) :
    Calls Try.prog 6 #[.slice A n c] w (HeavyN L w) := by
  have HI := Lib.hid h
  clear h
  go_enter Try.func6, Try.ntmps6
  go_wp2_with fail
  go_loop [3, 4] (fun t i => ∃ k tt : Nat, i = .int .i64 k ∧ t = .int .i64 tt ∧ k ≤ n ∧ k ≤ 60 ∧ tt ≤ 10000 ∧ Hid (∀ (j : Nat) (a : ActN), j < k → L[j]? = some a → a.n ≤ tt)) (fun _ i => 60 - (intOf i).toNat)
  case atStart => exact ⟨0, 0, rfl, rfl, by omega, by omega, by omega, fun j x hj => absurd hj (by omega)⟩
  case round =>
    obtain ⟨k, tt, rfl, rfl, hk, hk60, htt, HLT⟩ := hrel
    have i0 : (0 : Int) ≤ (k : Int) := by omega
    by_cases hlt : k < n
    · have i1 : (k : Int) < (n : Int) := by omega
      by_cases h60 : k < 60
      · have i2 : (k : Int) < 60 := by omega
        obtain ⟨b, off, a, rfl, hbl, hx, hmem, hrg⟩ := HI.out.at_ hlt
        have hfB := (HI.out.act a hmem).fn
        have c4 : w.cell? ⟨b, off + k * 5 + 4, none⟩ = some (.slice a.A a.n a.c) := hrg 4 _ rfl
        obtain ⟨nB, hnB⟩ : ∃ nB, a.n = nB := ⟨_, rfl⟩
        rw [hnB] at c4 hfB
        have HXX := Lib.hid hx
        have HNB := Lib.hid hnB
        clear hx hmem hrg hnB
        have e1 : IntKind.i64.wrap ((tt : Int) + (nB : Int)) = ((tt + nB : Nat) : Int) := by rw [IntKind.wrap_i64]; omega
        by_cases hbig : 10000 < tt + nB
        · have i3 : (10000 : Int) < ((tt + nB : Nat) : Int) := by omega
          go_wp2_with fail
          go_ret
          exact ⟨true, rfl, rfl, fun h => by cases h⟩
        · have i3 : ¬ ((10000 : Int) < ((tt + nB : Nat) : Int)) := by omega
          go_wp2_with fail
          go_round
          case rel =>
            refine ⟨k + 1, tt + nB, by go_num, by first | rfl | go_num, by omega, by omega, by omega, fun j y hj hy => ?_⟩
            by_cases hjk : j = k
            · subst hjk
              have e := HXX.out
              rw [hy] at e
              cases e
              rw [HNB.out]
              omega
            · have := HLT.out j y (by omega) hy
              omega
          case measure => simp [intOf]; omega
      · have i2 : ¬ ((k : Int) < 60) := by omega
        have HL : Hid (LightN L) := fun j a hj ha => by
          have := HLT.out j a (by omega) ha; omega
        go_wp2_with fail
        go_ret
        exact ⟨false, rfl, rfl, fun _ => HL.out⟩
    · have i1 : ¬ ((k : Int) < (n : Int)) := by omega
      have HL : Hid (LightN L) := fun j a hj ha => by
        have h1 := (List.getElem?_eq_some_iff.1 ha).1
        have h2 := HI.out.z
        have := HLT.out j a (by omega) ha; omega
      go_wp2_with fail
      go_ret
      exact ⟨false, rfl, rfl, fun _ => HL.out⟩

def aN : List Int := [97]
theorem aN_byts : Byts aN := fun c hc => by simp [aN] at hc; subst hc; exact ⟨by omega, by omega⟩
set_option maxHeartbeats 2000000 in
theorem wakes12_any (w : World) : Calls Try.prog 24 #[] w (Tells w.heap.size w (.bool true)) := by
  have hcv := fun w => Lib.run_convert_bytes_const (P := Try.prog) w 30 5 #[.int .u8 97] 1 1 Try.underlying30 Try.underlying5
  have hp : nPut nNone 1 2 aN = (nNone.put 1 [aN], 0) := rfl
  have HP := Lib.hid hp
  clear hp
  go_enter Try.func24, Try.ntmps24
  go_wp2_with fail
  refine (new_is _).mono ?_
  rintro e w1 ⟨g, F, rfl, hI, hF, hb⟩
  obtain ⟨w2, hw2⟩ : ∃ w2, w2 = w1.alloc (.cells #[.int .u8 97] 5 (1, 2)) := ⟨_, rfl⟩
  have hb2 : Below w1.heap.size w1 w2 := by rw [hw2]; exact (Below.refl _ _).alloc (Nat.le_refl _) _
  have hr2 : Rd w2 (some ⟨w1.heap.size, 0, none⟩) (u8s aN) := by rw [hw2]; exact rd_marked w1 [.int .u8 97] _ _
  have hI2 := hI.below hb2
  have hbw : Below w.heap.size w w2 := hb.trans (hb2.mono hb.size)
  have HW2 := Lib.hid hw2
  clear hw2 hI hb2
  go_wp2_with fail
  rw [← HW2.out]
  refine (put_is g 1 2 (some ⟨w1.heap.size, 0, none⟩) 1 1 aN w2 hI2 (by omega) (by omega) rfl hr2 aN_byts (by omega)).mono ?_
  rintro e w3 ⟨rfl, hto⟩
  rw [HP.out] at hto ⊢
  obtain ⟨F3, hI3, ht3, hF3⟩ := hto
  have hb3 : Below w.heap.size w w3 := hbw.trans (ht3.below hF hbw.size)
  have hF3' : ∀ k, F3 k → w.heap.size ≤ k := fun k hk => by
    rcases hF3 k hk with e | e
    · exact hF k e
    · have := hbw.size; omega
  clear hI2 hr2 ht3 hF hF3 hbw HW2 HP hb
  go_wp2_with fail
  refine (num12_any _ _).mono ?_
  rintro e w' ⟨rfl, rfl⟩
  go_wp2_with fail
  refine (take_yes g 0 1 aN 1 2 w3 hI3 (by omega) (by omega) rfl rfl rfl).mono ?_
  rintro e w4 ⟨g4, c4, rfl, hwr, hg4, F4, hI4, ht4, hF4, hn4⟩
  have hb4 : Below w.heap.size w w4 := hb3.trans (ht4.below hF3' hb3.size)
  clear hI3 hb3 hF3' ht4 hI4 hF4 hn4
  go_wp2_with fail
  refine (num12_any _ _).mono ?_
  rintro e w' ⟨rfl, rfl⟩
  obtain ⟨w5, hw5⟩ : ∃ w5, w5 = w4.alloc (.cells #[.int .u8 97] 5 (1, 2)) := ⟨_, rfl⟩
  have hb5 : Below w4.heap.size w4 w5 := by rw [hw5]; exact (Below.refl _ _).alloc (Nat.le_refl _) _
  have hr5 : Rd w5 (some ⟨w4.heap.size, 0, none⟩) (u8s aN) := by rw [hw5]; exact rd_marked w4 [.int .u8 97] _ _
  have HW5 := Lib.hid hw5
  clear hw5
  go_wp2_with fail
  rw [← HW5.out]
  refine (eqBytes_any (some ⟨g4, 0, none⟩) (some ⟨w4.heap.size, 0, none⟩) c4 1 1 1 aN aN w5 rfl rfl (hwr.rd.below hb5) hr5 (by omega) (by omega)).mono ?_
  rintro e w6 ⟨rfl, d, rfl⟩
  have hb6 : Below w.heap.size w (w5.drewN d) := below_n (hb4.trans (hb5.mono hb4.size)) d
  go_wp2_with fail
  go_ret
  exact ⟨by simp, hb6⟩

end Go.Proofs.Ytbffaaljommoeaa
