/-
  The walk of 'BookSigns', out of what it asks of package book.
-/
import Derived.Test.YtnooippbdfobdaaBookQuiet
import Derived.Deep.DeepCutAuto
import Derived.Deep.CutRange
namespace Go.Proofs.Ytnooippbdfobdaa
open Go.RowKit

/-- the bytes that are put in first -/
def upto (n : Nat) : List (List Int) := (List.range n).map fun i => [((i + 1 : Nat) : Int)]
theorem upto_length (n : Nat) : (upto n).length = n := by simp [upto]
theorem upto_next (n : Nat) : upto (n + 1) = upto n ++ [[((n + 1 : Nat) : Int)]] := by simp [upto, List.range_succ]
theorem upto_new : ∀ n, n < 5 → findB (upto n) [((n + 1 : Nat) : Int)] = 0 := by decide

/-- flags in rows of six -/
structure Grid (w : World) (g : Nat) (s : Nat → Nat → Bool) : Prop where
  cell : ∀ i j, i < 17 → j < 6 → w.cell? ⟨g, i * 6 + j, none⟩ = some (.bool (s i j))
  thaw : ∀ o, w.frozen? ⟨g, o, none⟩ = false
  lt : g < w.heap.size
theorem Grid.touch {w w' : World} {g : Nat} {s : Nat → Nat → Bool} {T : Nat → Prop} (h : Grid w g s) (ht : Touch T w w') (hn : ¬ T g) : Grid w' g s :=
  ⟨fun i j hi hj => (ht.cell h.lt hn).trans (h.cell i j hi hj), fun o => (ht.frozen h.lt hn).trans (h.thaw o), Nat.lt_of_lt_of_le h.lt ht.size⟩
theorem Grid.set {w : World} {g : Nat} {s t : Nat → Nat → Bool} {x y : Nat} (h : Grid w g s) (hx : x < 17) (hy : y < 6) (ht : t x y = true) (ho : ∀ i j, ¬ (i = x ∧ j = y) → t i j = s i j) : Grid (w.setCell ⟨g, x * 6 + y, none⟩ (.bool true)) g t where
  cell := fun i j hi hj => by
    by_cases hij : i = x ∧ j = y
    · obtain ⟨rfl, rfl⟩ := hij
      rw [ht]
      exact World.cell?_setCell_same _ _ _ (h.cell i j hi hj)
    · rw [ho i j hij]
      refine (World.cell?_setCell_other _ _ _ _ (fun e => ?_)).trans (h.cell i j hi hj)
      have e' : x * 6 + y = i * 6 + j := congrArg Addr.off e
      exact hij (by omega)
  thaw := fun o => by rw [World.frozen?_setCell]; exact h.thaw o
  lt := by simpa using h.lt
def signsOf (S : List (Int × Int)) : Nat → Nat → Bool := fun i j => signedB S (i : Int) (j : Int)
theorem signs_put (S : List (Int × Int)) (x y : Nat) : signsOf (S ++ [((x : Int), (y : Int))]) x y = true ∧ ∀ i j, ¬ (i = x ∧ j = y) → signsOf (S ++ [((x : Int), (y : Int))]) i j = signsOf S i j := by
  constructor
  · simp [signsOf, signedB]
  · intro i j h
    have : (((x : Int) == (i : Int)) && ((y : Int) == (j : Int))) = false := by
      cases h1 : ((x : Int) == (i : Int)) with
      | false => rfl
      | true =>
        cases h2 : ((y : Int) == (j : Int)) with
        | false => rfl
        | true => simp at h1 h2; exact absurd ⟨by omega, by omega⟩ h
    simp only [signsOf, signedB, List.any_append, List.any_cons, List.any_nil, this, Bool.or_false]
theorem grid_new (w : World) (t : TypeId) : Grid (w.alloc (.cells (Array.replicate 102 (.bool false)) t)) w.heap.size (signsOf []) where
  cell := fun i j hi hj => by
    have hb : (w.alloc (.cells (Array.replicate 102 (Value.bool false)) t)).heap[w.heap.size]? = some (.cells (Array.replicate 102 (Value.bool false)) t) := heap_alloc_new w _
    simp only [World.cell?, hb, signsOf, signedB, List.any_nil]
    have : i * 6 + j < 102 := by omega
    simp [this]
  thaw := fun o => by rw [World.frozen?, heap_alloc_new]; simp
  lt := by simp
theorem grid_of {w w2 : World} {t : TypeId} {cs : Array Value} {g : Nat} (h : w.alloc (.cells cs t) = w2) (hc : cs = Array.replicate 102 (.bool false)) (hg : g = w.heap.size) : Grid w2 g (signsOf []) := by
  subst hc hg
  rw [← h]
  exact grid_new w t
def gridZ : Array Value := Array.replicate 102 (.bool false)
theorem grid_zero (w : World) : (zeroValue 50).run Try.prog w = .ok (.agg gridZ) w := by kernel_rfl
theorem signed_out {S : List (Int × Int)} {who d : Int} (h : ∀ p ∈ S, (1 ≤ p.1 ∧ p.1 ≤ 16) ∧ 1 ≤ p.2 ∧ p.2 ≤ 5) (ho : ¬ ((1 ≤ who ∧ who ≤ 16) ∧ 1 ≤ d ∧ d ≤ 5)) : signedB S who d = false := by
  unfold signedB
  rw [List.any_eq_false]
  intro p hp
  have := h p hp
  simp
  intro e1 e2
  subst e1 e2
  exact ho this

set_option maxRecDepth 100000 in
set_option maxHeartbeats 100000000 in
theorem bookSigns_walk {I : BookIs} (K : BookC I) (a : Option Addr) (len cap : Nat) (w : World) (ha : Acts w a len cap) :
    Calls Try.prog 5 #[.slice a len cap] w fun e w' => e = .returned (.bool true) ∧ Below w.heap.size w w' := by
  have hgz := fun w => grid_zero w
  obtain ⟨hl, hm, hi⟩ := ha
  have HI := Lib.hid hi
  clear hi
  go_enter Try.func5, Try.ntmps5
  go_wp2_with fail
  refine (K.new _).mono ?_
  rintro e w1 ⟨gb, F0, rfl, hI, hF, hb1⟩
  have HI1 := Lib.hid hI
  have HF1 := Lib.hid hF
  clear hI hF
  go_wp2_with fail
  go_loopw [4] (fun i wr => ∃ (d : Nat) (F : Nat → Prop), i = .int .i64 ((d : Int) + 1) ∧ d ≤ 5 ∧ Hid (I wr gb F (upto d) []) ∧ Hid (∀ j, F j → w.heap.size ≤ j) ∧ Below w.heap.size w wr) (fun i _ => 6 - (intOf i).toNat)
  case atStart => exact ⟨0, F0, rfl, by omega, HI1.out, HF1.out, hb1⟩
  case round =>
    obtain ⟨d, F, rfl, hd, HIB, HFB, hb⟩ := hrel
    clear hb1
    by_cases hlt : d < 5
    · have i1 : (d : Int) + 1 ≤ 5 := by omega
      have u1 : IntKind.u8.wrap ((d : Int) + 1) = (d : Int) + 1 := by rw [IntKind.wrap_u8]; omega
      obtain ⟨w2, hw2⟩ : ∃ w2, w2 = wr.alloc (.cells #[.int .u8 ((d : Int) + 1)] 5) := ⟨_, rfl⟩
      have hb2 : Below wr.heap.size wr w2 := by rw [hw2]; exact (Below.refl _ _).alloc (Nat.le_refl _) _
      have hr2 : Rd w2 (some ⟨wr.heap.size, 0, none⟩) (u8s [((d + 1 : Nat) : Int)]) := by rw [hw2]; exact rd_new wr [.int .u8 ((d : Int) + 1)] _
      have hI2 := K.kept HIB.out hb2.size fun k hk => hb2.block k (K.lt HIB.out k hk)
      have hG : Given w2 F (some ⟨wr.heap.size, 0, none⟩) 1 1 [((d + 1 : Nat) : Int)] := ⟨rfl, hr2, fun c hc => by simp at hc; subst hc; exact ⟨by omega, by omega⟩, by omega, by simp [maxLen], by omega, fun x hx _ hf => by cases hx; have := K.lt HIB.out _ hf; simp at this⟩
      have hbw : Below w.heap.size w w2 := hb.trans (hb2.mono hb.size)
      have HU := Lib.hid (upto_new d hlt)
      have hul : (upto d).length ≤ 1000 := by rw [upto_length]; omega
      clear hr2 hb2
      go_wp2_with fail
      rw [← hw2]
      refine (K.digest_new gb (upto d) [] _ 1 1 _ _ hI2 hG hul HU.out).mono ?_
      rintro e w3 ⟨rfl, F3, hI3, ht3, hf3⟩
      rw [upto_length]
      rw [← upto_next] at hI3
      have hb3 : Below w.heap.size w w3 := hbw.trans (ht3.below HFB.out hbw.size)
      have hF3 : ∀ j, F3 j → w.heap.size ≤ j := fun j hj => by rcases hf3 j hj with h | h; exact HFB.out j h; have := hbw.size; omega
      clear hw2 ht3 hI2 hG
      go_wp2_with fail
      refine (num5_any _ _).mono ?_
      rintro e w' ⟨rfl, rfl⟩
      go_wp2_with fail
      go_roundw
      case rel => exact ⟨d + 1, F3, by go_num, by omega, hI3, hF3, hb3⟩
      case measure => simp [intOf]; omega
    · have HD : Hid (d = 5) := by show d = 5; omega
      have i1 : ¬ ((d : Int) + 1 ≤ 5) := by omega
      clear hlt hd
      obtain ⟨gg, hgg⟩ : ∃ gg, gg = wr.heap.size := ⟨_, rfl⟩
      have hgb : w.heap.size ≤ gg := by have := hb.size; omega
      have HAP : Hid (¬ F gg) := fun h => by have := K.lt HIB.out _ h; omega
      go_upto_region 11 with fail
      generalize hw2 : World.alloc wr _ = w2
      have hb2 : Below wr.heap.size wr w2 := by rw [← hw2]; exact (Below.refl _ _).alloc (Nat.le_refl _) _
      have hI2 : I w2 gb F (upto 5) [] := by rw [← HD.out]; exact K.kept HIB.out hb2.size fun k hk => hb2.block k (K.lt HIB.out k hk)
      have HI2 := Lib.hid hI2
      clear hI2
      have HG2 : Hid (Grid w2 gg (signsOf [])) := grid_of hw2 (by kernel_rfl) hgg
      have HBW := Lib.hid (hb.trans (hb2.mono hb.size))
      rw [← hgg]
      clear hb2 hw2 hgg
      go_wp2_with fail
      go_loopw [8] (fun i wz => ∃ (k : Nat) (S : List (Int × Int)) (F : Nat → Prop), i = .int .i64 k ∧ k ≤ len ∧ k ≤ 40 ∧ S.length ≤ k ∧ Hid (∀ p ∈ S, (1 ≤ p.1 ∧ p.1 ≤ 16) ∧ 1 ≤ p.2 ∧ p.2 ≤ 5) ∧ Hid (I wz gb F (upto 5) S) ∧ Hid (∀ j, F j → w.heap.size ≤ j) ∧ Hid (¬ F gg) ∧ Hid (Grid wz gg (signsOf S)) ∧ Below w.heap.size w wz) (fun i _ => 40 - (intOf i).toNat)
      case atStart => exact ⟨0, [], F, rfl, by omega, by omega, by simp, fun p hp => by simp at hp, HI2.out, HFB.out, HAP.out, HG2.out, HBW.out⟩
      case round =>
        obtain ⟨k, S, F, rfl, hk, hk40, hSk, HS, HIZ, HFZ, HAZ, HGZ, hbz⟩ := hrel
        have hul : (upto 5).length ≤ 1000 := by rw [upto_length]; omega
        by_cases hlt : k < len
        · by_cases hlt40 : k < 40
          · obtain ⟨b, off, q, nB, rfl, _, _, _, _, _, HA⟩ := (HI.out k hlt).all
            obtain ⟨ok, _, c1, c2, _⟩ := HA _ hbz
            obtain ⟨qk, qw, qd, AB, cB, B⟩ := q
            simp only at c1 c2
            obtain ⟨r, hr, hrv⟩ := within_val qw 16 (by omega) (by omega)
            obtain ⟨t, ht, htv⟩ := within_val qd 5 (by omega) (by omega)
            obtain ⟨x, hx⟩ : ∃ x : Nat, r + 1 = x := ⟨_, rfl⟩
            obtain ⟨y, hy⟩ : ∃ y : Nat, t + 1 = y := ⟨_, rfl⟩
            have sx : IntKind.i64.wrap (1 + (r : Int)) = (x : Int) := by rw [IntWalk.i64_in _ (by omega)]; omega
            have sy : IntKind.i64.wrap (1 + (t : Int)) = (y : Int) := by rw [IntWalk.i64_in _ (by omega)]; omega
            have i0 : (0 : Int) ≤ (k : Int) := by omega
            have i1 : (k : Int) < (len : Int) := by omega
            have i2 : (k : Int) < 40 := by omega
            have hwi1 : ∀ n, Calls Try.prog 9 #[.int .i64 qw, .int .i64 16] (wr.drewN n) fun e w' => e = .returned (.int .i64 r) ∧ wr.drewN n = w' := fun n => within_is qw 16 r _ hrv (by omega) (by omega)
            have hwi2 : ∀ n, Calls Try.prog 9 #[.int .i64 qd, .int .i64 5] (wr.drewN n) fun e w' => e = .returned (.int .i64 t) ∧ wr.drewN n = w' := fun n => within_is qd 5 t _ htv (by omega) (by omega)
            clear HA ok hrv htv
            go_wp2_with fail
            go_quiet ((go_at_call 9; first | (with_reducible exact quiet_left (hwi1 _)) | (with_reducible exact quiet_left (hwi2 _))))
            clear hwi1 hwi2 c1 c2
            go_wp2_with fail
            generalize hw3 : World.drewN wr _ = w3
            have hb3 : Below wr.heap.size wr w3 := by rw [← hw3]; exact drewN_below _ _
            have hI3 : I w3 gb F (upto 5) S := K.kept HIZ.out hb3.size fun j hj => hb3.block j (K.lt HIZ.out j hj)
            have hbw3 : Below w.heap.size w w3 := hbz.trans (hb3.mono hbz.size)
            have hG3 : Grid w3 gg (signsOf S) := HGZ.out.touch (T := fun _ => False) (Touch.of hb3) id
            obtain ⟨sv, hsv⟩ : ∃ sv, signedB S (x : Int) (y : Int) = sv := ⟨_, rfl⟩
            have kg : w3.cell? ⟨gg, x * 6 + y, none⟩ = some (.bool sv) := by rw [← hsv]; exact hG3.cell x y (by omega) (by omega)
            have x0 : (0 : Int) ≤ (x : Int) := by omega
            have x17 : (x : Int) < 17 := by omega
            have y0 : (0 : Int) ≤ (y : Int) := by omega
            have y6 : (y : Int) < 6 := by omega
            have hSe : S.length ≤ 1000 := by omega
            have hsg : ∀ wX, I wX gb F (upto 5) S → Calls Try.prog 18 #[.pointer (some ⟨gb, 0, none⟩), .int .i64 x, .int .i64 y] wX fun e w' => e = .returned (.bool sv) ∧ ∃ m, w' = wX.drewN m := fun wX h => by
              have := K.signed gb (upto 5) S x y wX h hul hSe (by omega) (by omega)
              rwa [hsv] at this
            clear hw3 hsv
            go_region_held3 (fun w' => w'.cell? ⟨gg, x * 6 + y, none⟩ = some (.bool sv))
              (first | assumption | go_keep)
              (first
                | (go_at_call 18; refine (hsg _ (by first | exact hI3 | exact BookC.drew K hI3)).mono ?_; rintro e w4 ⟨rfl, hd4⟩; have hI4 : I w4 gb F (upto 5) S := (by obtain ⟨m, rfl⟩ := hd4; exact K.kept hI3 (Nat.le_refl _) (fun _ _ => rfl)); have kS4 : w4.cell? ⟨gg, x * 6 + y, none⟩ = some (.bool sv) := (by obtain ⟨m, rfl⟩ := hd4; exact kg); have hb4 : Below w3.heap.size w3 w4 := (by obtain ⟨m, rfl⟩ := hd4; first | exact below_n ((Below.refl _ _).drew) m | exact below_n (Below.refl _ _) m))
                | (go_at_call 16; refine (K.sign_ok gb (upto 5) S x y _ hI4 hul hSe (by omega) (by rw [upto_length]; omega)).mono ?_; rintro e w5 ⟨rfl, F5, hI5, ht5, hf5⟩; have hG5 := (hG3.touch (T := fun _ => False) (Touch.of hb4) id).touch ht5 HAZ.out; have kS5 : w5.cell? ⟨gg, x * 6 + y, none⟩ = some (.bool sv) := (ht5.cell (by have := hG3.lt; have := hb4.size; omega) HAZ.out).trans kS4)
                | (go_at_call 12; refine (num5_any _ _).mono ?_; rintro e w' ⟨rfl, rfl⟩))
            have kf5 := hG5.thaw (x * 6 + y)
            have hbw4 : Below w.heap.size w w4 := hbw3.trans (hb4.mono hbw3.size)
            have hbw5 : Below w.heap.size w w5 := hbw4.trans (ht5.below HFZ.out hbw4.size)
            have hF5 : ∀ j, F5 j → w.heap.size ≤ j := fun j hj => by rcases hf5 j hj with h | h; exact HFZ.out j h; have := hbw4.size; omega
            have hA5 : ¬ F5 gg := fun h => by
              rcases hf5 _ h with h | h
              · exact HAZ.out h
              · have := hG3.lt; have := hb4.size; omega
            obtain ⟨S2, hS2⟩ : ∃ S2, S ++ [((x : Int), (y : Int))] = S2 := ⟨_, rfl⟩
            rw [hS2] at hI5
            have hin : ∀ p ∈ S2, (1 ≤ p.1 ∧ p.1 ≤ 16) ∧ 1 ≤ p.2 ∧ p.2 ≤ 5 := fun p hp => by
              rw [← hS2] at hp
              rcases List.mem_append.1 hp with h | h
              · exact HS.out p h
              · simp at h; subst h; simp only; omega
            have hSl : S2.length ≤ k + 1 := by rw [← hS2]; simp; omega
            obtain ⟨w6, hw6⟩ : ∃ w6, w6 = w5.setCell ⟨gg, x * 6 + y, none⟩ (.bool true) := ⟨_, rfl⟩
            have hG6 : Grid w6 gg (signsOf S2) := by rw [hw6, ← hS2]; exact hG5.set (by omega) (by omega) (signs_put S x y).1 (signs_put S x y).2
            have hI6 : I w6 gb F5 (upto 5) S2 := by rw [hw6]; exact K.kept hI5 (by simp) fun j hj => set_block _ (fun e => hA5 (e ▸ hj))
            have hbw6 : Below w.heap.size w w6 := by rw [hw6]; exact hbw5.setCell hgb _
            have HG6 := Lib.hid hG6
            have HI6 := Lib.hid hI6
            have HF5 := Lib.hid hF5
            have HA5 := Lib.hid hA5
            have HIN := Lib.hid hin
            clear hsg kS4 hG5 ht5 hI3 hI4 hI5 hI6 hG6 hF5 hA5 hin hG3 hb3 hb4 kg hS2
            go_upto_region 18 with fail
            rw [← hw6]
            clear hw6 kf5 kS5
            go_wp2_with fail
            go_loopw [11] (fun i wz => ∃ m d : Nat, i = .int .i64 ((m : Int) + 1) ∧ m ≤ 5 ∧ wz = w6.drewN d) (fun i _ => 6 - (intOf i).toNat)
            case atStart => exact ⟨0, 0, rfl, by omega, rfl⟩
            case round =>
              obtain ⟨m, d, rfl, hm5, hwz⟩ := hrel
              have hb67 : Below w6.heap.size w6 wr := by rw [hwz]; exact drewN_below _ _
              have hI7 : I wr gb F5 (upto 5) S2 := by rw [hwz]; exact K.drewN HI6.out d
              have hG7 : Grid wr gg (signsOf S2) := HG6.out.touch (T := fun _ => False) (Touch.of hb67) id
              have HWZ := Lib.hid hwz
              clear hwz
              by_cases hml : m < 5
              · obtain ⟨x2, hx2⟩ : ∃ x2 : Nat, 1 + x % 16 = x2 := ⟨_, rfl⟩
                have sx2 : IntKind.i64.wrap (1 + (x : Int) % 16) = (x2 : Int) := by rw [IntWalk.i64_in _ (by omega)]; omega
                have x20 : (0 : Int) ≤ (x2 : Int) := by omega
                have x217 : (x2 : Int) < 17 := by omega
                have m0 : (0 : Int) ≤ (m : Int) + 1 := by omega
                have m6 : (m : Int) + 1 < 6 := by omega
                have m5 : (m : Int) + 1 ≤ 5 := by omega
                have mt : ((m : Int) + 1).toNat = m + 1 := by omega
                obtain ⟨v1, hv1⟩ : ∃ v, signedB S2 (x : Int) ((m : Int) + 1) = v := ⟨_, rfl⟩
                obtain ⟨v2, hv2⟩ : ∃ v, signedB S2 (x2 : Int) ((m : Int) + 1) = v := ⟨_, rfl⟩
                have k1 : wr.cell? ⟨gg, x * 6 + (m + 1), none⟩ = some (.bool v1) := by rw [← hv1]; exact hG7.cell x (m + 1) (by omega) (by omega)
                have k2 : wr.cell? ⟨gg, x2 * 6 + (m + 1), none⟩ = some (.bool v2) := by rw [← hv2]; exact hG7.cell x2 (m + 1) (by omega) (by omega)
                have hq1 : ∀ n, Calls Try.prog 18 #[.pointer (some ⟨gb, 0, none⟩), .int .i64 x, .int .i64 ((m : Int) + 1)] (wr.drewN n) fun e w' => e = .returned (.bool v1) ∧ ∃ d, w' = (wr.drewN n).drewN d := fun n => by
                  have := K.signed gb (upto 5) S2 x ((m : Int) + 1) _ (K.drewN hI7 n) hul (by omega) (by omega) (by omega)
                  rwa [hv1] at this
                have hq2 : ∀ n, Calls Try.prog 18 #[.pointer (some ⟨gb, 0, none⟩), .int .i64 x2, .int .i64 ((m : Int) + 1)] (wr.drewN n) fun e w' => e = .returned (.bool v2) ∧ ∃ d, w' = (wr.drewN n).drewN d := fun n => by
                  have := K.signed gb (upto 5) S2 x2 ((m : Int) + 1) _ (K.drewN hI7 n) hul (by omega) (by omega) (by omega)
                  rwa [hv2] at this
                clear hv1 hv2 hx2 hG7 hI7 hb67
                go_wp2_with fail
                go_quiet ((go_at_call 18; first | (with_reducible exact quiet_more (hq1 _)) | (with_reducible exact quiet_more (hq2 _))))
                go_wp2_with fail
                go_roundw
                case rel => exact ⟨m + 1, _, by go_num, by omega, by rw [HWZ.out]; exact World.drewN_drewN _ _ _⟩
                case measure => simp [intOf]; omega
              · obtain rfl : m = 5 := by omega
                have hb8 : Below w.heap.size w wr := hbw6.trans (hb67.mono hbw6.size)
                go_wp2_with fail
                go_roundw
                case rel => exact ⟨k + 1, S2, F5, by go_num, by omega, by omega, hSl, HIN.out, hI7, HF5.out, HA5.out, hG7, hb8⟩
                case measure => simp [intOf]; omega
          · have i1 : (k : Int) < (len : Int) := by omega
            have i2 : ¬ ((k : Int) < 40) := by omega
            go_wp2_with fail
            refine (K.sign_form gb (upto 5) S 0 1 _ HIZ.out hul (by omega) (by omega)).mono ?_
            rintro e w3 ⟨rfl, F3, hI3, ht3, hf3⟩
            have hb3 : Below w.heap.size w w3 := hbz.trans (ht3.below HFZ.out hbz.size)
            have hF3 : ∀ j, F3 j → w.heap.size ≤ j := fun j hj => by rcases hf3 j hj with h | h; exact HFZ.out j h; have := hbz.size; omega
            go_wp2_with fail
            refine (num5_any _ _).mono ?_
            rintro e w' ⟨rfl, rfl⟩
            go_wp2_with fail
            refine (K.sign_form gb (upto 5) S 17 1 _ hI3 hul (by omega) (by omega)).mono ?_
            rintro e w4 ⟨rfl, F4, hI4, ht4, hf4⟩
            have hb4 : Below w.heap.size w w4 := hb3.trans (ht4.below hF3 hb3.size)
            have hF4 : ∀ j, F4 j → w.heap.size ≤ j := fun j hj => by rcases hf4 j hj with h | h; exact hF3 j h; have := hb3.size; omega
            go_wp2_with fail
            refine (num5_any _ _).mono ?_
            rintro e w' ⟨rfl, rfl⟩
            go_wp2_with fail
            refine (K.sign_none gb (upto 5) S 1 6 _ hI4 hul (by omega) (by omega) (by rw [upto_length]; omega)).mono ?_
            rintro e w5 ⟨rfl, F5, hI5, ht5, hf5⟩
            have hb5 : Below w.heap.size w w5 := hb4.trans (ht5.below hF4 hb4.size)
            have hF5 : ∀ j, F5 j → w.heap.size ≤ j := fun j hj => by rcases hf5 j hj with h | h; exact hF4 j h; have := hb4.size; omega
            go_wp2_with fail
            refine (num5_any _ _).mono ?_
            rintro e w' ⟨rfl, rfl⟩
            go_wp2_with fail
            refine (K.sign_none gb (upto 5) S 1 0 _ hI5 hul (by omega) (by omega) (by omega)).mono ?_
            rintro e w6 ⟨rfl, F6, hI6, ht6, hf6⟩
            have hb6 : Below w.heap.size w w6 := hb5.trans (ht6.below hF5 hb5.size)
            have so1 := signed_out (who := 1) (d := 6) HS.out (by omega)
            have so2 := signed_out (who := 0) (d := 1) HS.out (by omega)
            have HO1 := Lib.hid so1
            have HO2 := Lib.hid so2
            clear so1 so2
            go_wp2_with fail
            refine (num5_any _ _).mono ?_
            rintro e w' ⟨rfl, rfl⟩
            go_wp2_with fail
            refine (K.signed gb (upto 5) S 1 6 _ hI6 hul (by omega) (by omega) (by omega)).mono ?_
            rintro e w7 ⟨rfl, m7, rfl⟩
            rw [HO1.out]
            go_wp2_with fail
            refine (K.signed gb (upto 5) S 0 1 _ (K.drewN hI6 _) hul (by omega) (by omega) (by omega)).mono ?_
            rintro e w8 ⟨rfl, m8, rfl⟩
            rw [HO2.out]
            have hb8 : Below w.heap.size w (w6.drewN (m7 + m8)) := below_n hb6 _
            go_wp2_with fail
            refine (wakes5_any K _).mono ?_
            rintro e w9 ⟨rfl, hb9⟩
            have hb10 := hb8.trans (hb9.mono hb8.size)
            go_wp2_with fail
            go_ret
            exact ⟨rfl, hb10⟩
        · have i1 : ¬ ((k : Int) < (len : Int)) := by omega
          go_wp2_with fail
          refine (K.sign_form gb (upto 5) S 0 1 _ HIZ.out hul (by omega) (by omega)).mono ?_
          rintro e w3 ⟨rfl, F3, hI3, ht3, hf3⟩
          have hb3 : Below w.heap.size w w3 := hbz.trans (ht3.below HFZ.out hbz.size)
          have hF3 : ∀ j, F3 j → w.heap.size ≤ j := fun j hj => by rcases hf3 j hj with h | h; exact HFZ.out j h; have := hbz.size; omega
          go_wp2_with fail
          refine (num5_any _ _).mono ?_
          rintro e w' ⟨rfl, rfl⟩
          go_wp2_with fail
          refine (K.sign_form gb (upto 5) S 17 1 _ hI3 hul (by omega) (by omega)).mono ?_
          rintro e w4 ⟨rfl, F4, hI4, ht4, hf4⟩
          have hb4 : Below w.heap.size w w4 := hb3.trans (ht4.below hF3 hb3.size)
          have hF4 : ∀ j, F4 j → w.heap.size ≤ j := fun j hj => by rcases hf4 j hj with h | h; exact hF3 j h; have := hb3.size; omega
          go_wp2_with fail
          refine (num5_any _ _).mono ?_
          rintro e w' ⟨rfl, rfl⟩
          go_wp2_with fail
          refine (K.sign_none gb (upto 5) S 1 6 _ hI4 hul (by omega) (by omega) (by rw [upto_length]; omega)).mono ?_
          rintro e w5 ⟨rfl, F5, hI5, ht5, hf5⟩
          have hb5 : Below w.heap.size w w5 := hb4.trans (ht5.below hF4 hb4.size)
          have hF5 : ∀ j, F5 j → w.heap.size ≤ j := fun j hj => by rcases hf5 j hj with h | h; exact hF4 j h; have := hb4.size; omega
          go_wp2_with fail
          refine (num5_any _ _).mono ?_
          rintro e w' ⟨rfl, rfl⟩
          go_wp2_with fail
          refine (K.sign_none gb (upto 5) S 1 0 _ hI5 hul (by omega) (by omega) (by omega)).mono ?_
          rintro e w6 ⟨rfl, F6, hI6, ht6, hf6⟩
          have hb6 : Below w.heap.size w w6 := hb5.trans (ht6.below hF5 hb5.size)
          have so1 := signed_out (who := 1) (d := 6) HS.out (by omega)
          have so2 := signed_out (who := 0) (d := 1) HS.out (by omega)
          have HO1 := Lib.hid so1
          have HO2 := Lib.hid so2
          clear so1 so2
          go_wp2_with fail
          refine (num5_any _ _).mono ?_
          rintro e w' ⟨rfl, rfl⟩
          go_wp2_with fail
          refine (K.signed gb (upto 5) S 1 6 _ hI6 hul (by omega) (by omega) (by omega)).mono ?_
          rintro e w7 ⟨rfl, m7, rfl⟩
          rw [HO1.out]
          go_wp2_with fail
          refine (K.signed gb (upto 5) S 0 1 _ (K.drewN hI6 _) hul (by omega) (by omega) (by omega)).mono ?_
          rintro e w8 ⟨rfl, m8, rfl⟩
          rw [HO2.out]
          have hb8 : Below w.heap.size w (w6.drewN (m7 + m8)) := below_n hb6 _
          go_wp2_with fail
          refine (wakes5_any K _).mono ?_
          rintro e w9 ⟨rfl, hb9⟩
          have hb10 := hb8.trans (hb9.mono hb8.size)
          go_wp2_with fail
          go_ret
          exact ⟨rfl, hb10⟩

end Go.Proofs.Ytnooippbdfobdaa
