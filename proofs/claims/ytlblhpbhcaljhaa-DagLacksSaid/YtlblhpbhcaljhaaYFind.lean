/-
  Package dag's search for a place.
-/
import Derived.Test.YtlblhpbhcaljhaaYCode
namespace Go.Proofs.Ytlblhpbhcaljhaa
open Go.RowKit Pl.Fl

set_option maxRecDepth 100000 in
set_option maxHeartbeats 4000000 in
theorem searchP_is (o : Ad) (ms : List (CrtD × CrtA)) (l : List CrtD) (u v : Nat) (w : World) (h : RowY w o ms) (hl : ms.map Prod.fst = l) (ha : AscC l) (hp : ∀ x ∈ l, x.pl) (h' : Pl.isP u v = true) :
    Calls Try.prog 77 #[.slice o.A o.n o.c, .complex .f64 u v, .func (.func 78) #[] #[]] w fun e w' =>
      e = .returned (.tuple #[.int .i64 (posC l (fint u) (fint v)), .bool (hasAt l (fint u) (fint v))]) ∧ Below w.heap.size w w' := by
  have hlen : l.length = o.n := by rw [← hl, List.length_map, h.row.len]
  have hn1 : o.n ≤ 1000000 := by rw [← h.row.len]; exact h.few
  have hat : ∀ (i : Nat) (x : CrtD), l[i]? = some x → ∃ a, ms[i]? = some (x, a) := fun i x hx => by
    rw [← hl, List.getElem?_map] at hx
    cases hm : ms[i]? with
    | none => rw [hm] at hx; cases hx
    | some z =>
      rw [hm] at hx
      simp only [Option.map_some, Option.some.injEq] at hx
      exact ⟨z.2, by rw [← hx]⟩
  have hmon := mon_bef ha (fint u) (fint v)
  have hclo : ∀ (x : CrtD) (a : CrtA), x ∈ l → ∀ wX, Calls Try.prog 78 #[crtV x a, .complex .f64 u v] wX fun e w' => e = .returned (.int .i64 (cmpP x.r x.a (fint u) (fint v))) ∧ Below wX.heap.size wX w' := fun x a hx wX => cloP_is x a u v (hp x hx) h' wX
  obtain ⟨R, hR⟩ : ∃ R, R = fint u := ⟨_, rfl⟩
  obtain ⟨C, hC⟩ : ∃ C, C = fint v := ⟨_, rfl⟩
  rw [← hR, ← hC] at hmon hclo ⊢
  have hcel : ∀ (i : Nat) (x : CrtD × CrtA), ms[i]? = some x → ∃ b off, o.A = some ⟨b, off, none⟩ ∧ b < w.heap.size ∧ _ := fun i x hx => h.cells hx
  obtain ⟨A, n, c⟩ := o
  simp only at hlen hn1 hcel ⊢
  have HL := Lib.hid hlen
  have HAT := Lib.hid hat
  have HM := Lib.hid hmon
  have HCL := Lib.hid hclo
  have HCE := Lib.hid hcel
  clear hlen hat hmon hclo hcel ha hp h' hl h hR hC
  unfold posC
  obtain ⟨f, hf⟩ : ∃ f, f = isBef R C := ⟨_, rfl⟩
  have hfx : ∀ x : CrtD, f x = aheadB x.r x.a R C := fun x => by rw [hf]; rfl
  have hha : ∀ p, p = cutF f l → hasAt l R C = (match l[p]? with | none => false | some y => decide (y.r = R ∧ y.a = C)) := fun p e => by rw [hasAt, posC, e, hf]; rfl
  have HFX := Lib.hid hfx
  have HHA := Lib.hid hha
  rw [← hf] at HM ⊢
  clear hf hfx hha
  go_enter Try.func77, Try.ntmps77
  go_wp2
  go_loopw [9, 10] (fun i j wr => ∃ lo hi : Nat, i = .int .i64 lo ∧ j = .int .i64 hi ∧ lo ≤ hi ∧ hi ≤ n ∧ Hid (∀ k a, k < lo → l[k]? = some a → f a = true) ∧ Hid (∀ k a, hi ≤ k → l[k]? = some a → f a = false) ∧ Below w.heap.size w wr) (fun i j _ => ((intOf j) - (intOf i)).toNat)
  case atStart => exact ⟨0, n, rfl, rfl, by omega, by omega, fun k a hk => by omega, fun k a hk ha => by
    have := (List.getElem?_eq_some_iff.1 ha).1
    rw [HL.out] at this
    omega, Below.refl _ _⟩
  case round =>
    obtain ⟨lo, hi, rfl, rfl, hlh, hin, HA, HB, hb⟩ := hrel
    by_cases hlt : lo < hi
    · obtain ⟨x, hx⟩ : ∃ x, l[(lo + hi) / 2]? = some x := ⟨_, List.getElem?_eq_getElem (by rw [HL.out]; omega)⟩
      obtain ⟨a, hm⟩ := HAT.out _ _ hx
      obtain ⟨b, off, rfl, hbl, hce⟩ := HCE.out _ _ hm
      obtain ⟨k0, k1, k2, k3, k4, k5⟩ := hce _ hb
      dsimp only at k0 k1 k2 k3 k4 k5
      have HX := Lib.hid hx
      have HC2 := Lib.hid (fun wX => HCL.out x a (List.mem_of_getElem? hx) wX)
      unfold crtV at HC2
      clear hm hx hce
      cases hls : f x with
      | true =>
        have hc0 : cmpP x.r x.a R C < 0 := cmpP_neg.2 (by rw [← HFX.out]; exact hls)
        have HLS := Lib.hid hls
        clear hls
        go_wp2_with (go_at_call 78; refine (HC2.out _).mono ?_; rintro e w' ⟨rfl, hb1⟩)
        go_roundw
        case rel =>
          refine ⟨(lo + hi) / 2 + 1, hi, ?_, rfl, by omega, hin, fun k a hk ha => ?_, HB.out, hb.trans (hb1.mono hb.size)⟩
          · rw [show ((lo : Int) + (hi : Int)) / 2 + 1 = (((lo + hi) / 2 + 1 : Nat) : Int) by omega]
          · rcases Nat.lt_or_ge k ((lo + hi) / 2) with h2 | h2
            · exact HM.out _ _ _ _ h2 ha HX.out HLS.out
            · have : k = (lo + hi) / 2 := by omega
              subst this
              rw [HX.out] at ha
              cases ha
              exact HLS.out
        case measure => simp [intOf]; omega
      | false =>
        have hc0 : ¬ (cmpP x.r x.a R C < 0) := fun e => by have := cmpP_neg.1 e; rw [← HFX.out, hls] at this; cases this
        have HLS := Lib.hid hls
        clear hls
        go_wp2_with (go_at_call 78; refine (HC2.out _).mono ?_; rintro e w' ⟨rfl, hb1⟩)
        go_roundw
        case rel =>
          refine ⟨lo, (lo + hi) / 2, rfl, ?_, by omega, by omega, HA.out, fun k a hk ha => ?_, hb.trans (hb1.mono hb.size)⟩
          · rw [show ((lo : Int) + (hi : Int)) / 2 = (((lo + hi) / 2 : Nat) : Int) by omega]
          · rcases Nat.lt_or_ge ((lo + hi) / 2) k with h2 | h2
            · cases hfa : f a with
              | false => rfl
              | true => have := HM.out _ _ _ _ h2 HX.out ha hfa; rw [HLS.out] at this; cases this
            · have : k = (lo + hi) / 2 := by omega
              subst this
              rw [HX.out] at ha
              cases ha
              exact HLS.out
        case measure => simp [intOf]; omega
    · obtain rfl : lo = hi := by omega
      have i0 : ¬ ((lo : Int) < (lo : Int)) := by omega
      clear hlt hlh
      have hp : lo = cutF f l := cutF_unique (by rw [HL.out]; exact hin) (fun k a hk ha => HA.out k a hk ha) (fun a ha => HB.out lo a (Nat.le_refl _) ha)
      have HP := Lib.hid hp
      clear hp
      by_cases hn2 : lo < n
      · obtain ⟨x, hx⟩ : ∃ x, l[lo]? = some x := ⟨_, List.getElem?_eq_getElem (by rw [HL.out]; omega)⟩
        obtain ⟨a, hm⟩ := HAT.out _ _ hx
        obtain ⟨b, off, rfl, hbl, hce⟩ := HCE.out _ _ hm
        obtain ⟨k0, k1, k2, k3, k4, k5⟩ := hce _ hb
        dsimp only at k0 k1 k2 k3 k4 k5
        have i1 : (lo : Int) < (n : Int) := by omega
        have hh : Hid (hasAt l R C = (cmpP x.r x.a R C == 0)) := by
          show _ = _
          rw [HHA.out lo HP.out, hx]
          simp only
          rw [Bool.eq_iff_iff]
          simp only [decide_eq_true_eq, beq_iff_eq]
          exact cmpP_zero.symm
        have HC2 := Lib.hid (fun wX => HCL.out x a (List.mem_of_getElem? hx) wX)
        unfold crtV at HC2
        clear hm hx hce
        go_wp2_with (go_at_call 78; refine (HC2.out _).mono ?_; rintro e w' ⟨rfl, hb1⟩)
        go_ret2
        refine ⟨?_, hb.trans (hb1.mono hb.size)⟩
        rw [hh.out, ← HP.out]
        rfl
      · have i1 : ¬ ((lo : Int) < (n : Int)) := by omega
        have hh : Hid (hasAt l R C = false) := by
          show _ = _
          rw [HHA.out lo HP.out, List.getElem?_eq_none (by rw [HL.out]; omega)]
        go_wp2_with fail
        go_ret2
        refine ⟨?_, hb⟩
        rw [hh.out, ← HP.out]
        rfl

set_option maxHeartbeats 1000000 in
theorem findPlace_is (N L : Int) (o : Ad) (ms : List (CrtD × CrtA)) (l : List CrtD) (u v : Nat) (w : World) (h : RowY w o ms) (hl : ms.map Prod.fst = l) (ha : AscC l) (hp : ∀ x ∈ l, x.pl) (h' : Pl.isP u v = true) :
    Calls Try.prog 57 #[dagV N L o, .complex .f64 u v] w fun e w' =>
      e = .returned (.tuple #[.int .i64 (posC l (fint u) (fint v)), .bool (hasAt l (fint u) (fint v))]) ∧ Below w.heap.size w w' := by
  have HS : Hid (∀ wX, Below w.heap.size w wX → _) := fun wX hb => searchP_is o ms l u v wX (h.below hb) hl ha hp h'
  clear h hl ha hp h'
  unfold dagV
  obtain ⟨p, hp⟩ : ∃ p, p = posC l (fint u) (fint v) := ⟨_, rfl⟩
  obtain ⟨b, hb⟩ : ∃ b, b = hasAt l (fint u) (fint v) := ⟨_, rfl⟩
  rw [← hp, ← hb] at HS ⊢
  clear hp hb
  have hb0 : Below w.heap.size w (w.alloc (.cells #[.int .i64 N, .int .i64 L, .slice o.A o.n o.c] 24)) := (Below.refl _ _).alloc (Nat.le_refl _) _
  have HB := Lib.hid hb0
  clear hb0
  go_enter Try.func57, Try.ntmps57
  go_wp2_with (go_at_call 77; refine (HS.out _ HB.out).mono ?_; rintro e w' ⟨rfl, hb⟩)
  go_ret2
  exact ⟨rfl, HB.out.trans (hb.mono HB.out.size)⟩

end Go.Proofs.Ytlblhpbhcaljhaa
