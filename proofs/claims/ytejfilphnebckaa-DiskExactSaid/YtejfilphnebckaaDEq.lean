/-
  The page's comparison of files.
-/
import Derived.Test.YtejfilphnebckaaDWakes
import Derived.BigRegion
namespace Go.Proofs.Ytejfilphnebckaa
open Go.RowKit

set_option maxHeartbeats 1000000 in
theorem eqFile_any (nm nm' : ByteArray) (A A' : Option Addr) (c c' n n' : Nat) (L M : List Int) (w : World) (hz : L.length = n) (hz' : M.length = n') (hr : Rd w A (u8s L)) (hr' : Rd w A' (u8s M)) (hn : n ≤ 1073741824) (hn' : n' ≤ 1073741824) :
    Calls Try.prog 57 #[.agg #[.string nm, .slice A n c], .agg #[.string nm', .slice A' n' c']] w (Tells w.heap.size w (.bool (decide (nm = nm' ∧ L = M)))) := by
  obtain ⟨w2, hw2⟩ : ∃ w2, w2 = (w.alloc (.cells #[.string nm, .slice A n c] 59)).alloc (.cells #[.string nm', .slice A' n' c'] 59) := ⟨_, rfl⟩
  have hb2 : Below w.heap.size w w2 := by rw [hw2]; exact ((Below.refl _ _).alloc (Nat.le_refl _) _).alloc (by simp) _
  have bx : Box w2 w.heap.size [.string nm, .slice A n c] := by rw [hw2]; exact (box_new w [.string nm, .slice A n c] 59).below ((Below.refl _ _).alloc (Nat.le_refl _) _) (by simp)
  have by_ : Box w2 (w.heap.size + 1) [.string nm', .slice A' n' c'] := by
    rw [hw2]
    have h := box_new (w.alloc (.cells #[.string nm, .slice A n c] 59)) [.string nm', .slice A' n' c'] 59
    have e : (w.alloc (.cells #[.string nm, .slice A n c] 59)).heap.size = w.heap.size + 1 := by simp
    rw [e] at h
    exact h
  have x0 := bx.2 0 _ rfl
  have x1 := bx.2 1 _ rfl
  have y0 := by_.2 0 _ rfl
  have y1 := by_.2 1 _ rfl
  have HW := Lib.hid hw2
  have HZ := Lib.hid hz
  have HZ' := Lib.hid hz'
  clear hw2 bx by_ hz hz'
  by_cases hnm : nm = nm'
  · have hd : decide (nm = nm' ∧ L = M) = decide (L = M) := by simp [hnm]
    rw [hd]
    subst hnm
    clear hd
    go_enter Try.func57, Try.ntmps57
    go_upto_region 1 with fail
    rw [← HW.out]
    go_wp2_with fail
    refine (eqBytes_any A A' c c' n n' L M _ HZ.out HZ'.out (hr.below hb2) (hr'.below hb2) hn hn').mono ?_
    rintro e w3 ⟨rfl, d, rfl⟩
    go_wp2_with fail
    go_ret
    exact ⟨rfl, below_n hb2 _⟩
  · have hd : decide (nm = nm' ∧ L = M) = false := by simp [hnm]
    rw [hd]
    have j1 : (nm.toList == nm'.toList) = false := by simp only [beq_eq_false_iff_ne, ne_eq]; exact fun h => hnm (ba_inj h)
    clear hnm hd
    go_enter Try.func57, Try.ntmps57
    go_upto_region 1 with fail
    rw [← HW.out]
    go_wp2_with fail
    go_ret
    exact ⟨rfl, hb2⟩

theorem one_file {l : List FL} {nm : ByteArray} {dat : List Int} (h : l.map FL.pl = [(nm, dat)]) : ∃ f, l = [f] ∧ f.nm = nm ∧ f.dat = dat := by
  match l, h with
  | [f], h =>
    simp [FL.pl] at h
    exact ⟨f, rfl, h.1, h.2⟩
theorem take_nx {α : Type} {l : List α} {k : Nat} {x : α} (h : l[k]? = some x) : l.take (k + 1) = l.take k ++ [x] := by
  rw [List.take_add_one, h]; rfl
set_option maxRecDepth 100000 in
set_option maxHeartbeats 4000000 in
theorem eqFiles_any (A A' : Option Addr) (c c' n n' : Nat) (l m : List FL) (w : World) (hz : l.length = n) (hz' : m.length = n') (hr : Rd w A (cellsF l)) (hr' : Rd w A' (cellsF m)) (hi : ∀ f ∈ l, FIn w f ∧ f.dat.length ≤ 1073741824) (hi' : ∀ f ∈ m, FIn w f ∧ f.dat.length ≤ 1073741824) (hn : n ≤ 1073741824) (hn' : n' ≤ 1073741824) :
    Calls Try.prog 32 #[.slice A n c, .slice A' n' c'] w (Tells w.heap.size w (.bool (decide (l.map FL.pl = m.map FL.pl)))) := by
  by_cases hnn : n = n'
  · subst hnn
    have HZ := Lib.hid hz
    have HZ' := Lib.hid hz'
    have HR := Lib.hid hr
    have HR' := Lib.hid hr'
    have HI := Lib.hid hi
    have HI' := Lib.hid hi'
    clear hz hz' hr hr' hi hi'
    go_enter Try.func32, Try.ntmps32
    go_wp2_with fail
    go_loopw [5] (fun i wr => ∃ k : Nat, i = .int .i64 k ∧ k ≤ n ∧ Below w.heap.size w wr ∧ Hid ((l.map FL.pl).take k = (m.map FL.pl).take k)) (fun i _ => n - (intOf i).toNat)
    case atStart => exact ⟨0, rfl, by omega, Below.refl _ _, rfl⟩
    case round =>
      obtain ⟨k, rfl, hk, hb, HE⟩ := hrel
      have i0 : (0 : Int) ≤ (k : Int) := by omega
      by_cases hlt : k < n
      · have i1 : (k : Int) < (n : Int) := by omega
        obtain ⟨f, hf⟩ : ∃ f, l[k]? = some f := ⟨l[k]'(by rw [HZ.out]; exact hlt), by simp⟩
        obtain ⟨f', hf'⟩ : ∃ f, m[k]? = some f := ⟨m[k]'(by rw [HZ'.out]; exact hlt), by simp⟩
        obtain ⟨b, off, rfl, _, hcl⟩ := (HR.out.below hb).open_ (by rw [cellsF_length, HZ.out]; omega)
        obtain ⟨b', off', rfl, _, hcl'⟩ := (HR'.out.below hb).open_ (by rw [cellsF_length, HZ'.out]; omega)
        have hm1 := List.mem_of_getElem? hf
        have hm2 := List.mem_of_getElem? hf'
        obtain ⟨⟨⟨Ad, cd, hv, hdc, hdm, hrd⟩, _⟩, hsz⟩ := HI.out f hm1
        obtain ⟨⟨⟨Ad', cd', hv', hdc', hdm', hrd'⟩, _⟩, hsz'⟩ := HI'.out f' hm2
        obtain ⟨g0, g1⟩ := cellsF_at hf
        obtain ⟨g0', g1'⟩ := cellsF_at hf'
        have e0 := hcl _ _ g0
        have e1 := hcl _ _ g1
        have e0' := hcl' _ _ g0'
        have e1' := hcl' _ _ g1'
        rw [hv, ← Nat.add_assoc] at e1
        rw [hv', ← Nat.add_assoc] at e1'
        obtain ⟨nd, hnd⟩ : ∃ nd, f.dat.length = nd := ⟨_, rfl⟩
        obtain ⟨nd', hnd'⟩ : ∃ nd, f'.dat.length = nd := ⟨_, rfl⟩
        rw [hnd] at e1 hsz
        rw [hnd'] at e1' hsz'
        have HRD := Lib.hid (hrd.below hb)
        have HRD' := Lib.hid (hrd'.below hb)
        have HND := Lib.hid hnd
        have HND' := Lib.hid hnd'
        have h1 : (l.map FL.pl)[k]? = some f.pl := by rw [List.getElem?_map, hf]; rfl
        have h2 : (m.map FL.pl)[k]? = some f'.pl := by rw [List.getElem?_map, hf']; rfl
        obtain ⟨B, hB⟩ : ∃ B, decide (f.nm = f'.nm ∧ f.dat = f'.dat) = B := ⟨_, rfl⟩
        have HB : Hid ((B = true → (l.map FL.pl).take (k + 1) = (m.map FL.pl).take (k + 1)) ∧ (B = false → decide (l.map FL.pl = m.map FL.pl) = false)) := by
          constructor
          · intro hB2
            rw [hB2, decide_eq_true_eq] at hB
            rw [take_nx h1, take_nx h2, HE.out, FL.pl, FL.pl, hB.1, hB.2]
          · intro hB2
            rw [hB2, decide_eq_false_iff_not] at hB
            rw [decide_eq_false_iff_not]
            intro h
            rw [h, h2, FL.pl, FL.pl] at h1
            simp only [Option.some.injEq, Prod.mk.injEq] at h1
            exact hB ⟨h1.1.symm, h1.2.symm⟩
        have HBB := Lib.hid hB
        clear hcl hcl' g0 g1 g0' g1' hm1 hm2 hf hf' hv hv' hrd hrd' hdc hdc' hdm hdm' hnd hnd' h1 h2 hB
        have hcall := fun wX (hX : Below wr.heap.size wr wX) => eqFile_any f.nm f'.nm Ad Ad' cd cd' nd nd' f.dat f'.dat wX HND.out HND'.out (HRD.out.below hX) (HRD'.out.below hX) hsz hsz'
        rw [HBB.out] at hcall
        have HCALL := Lib.hid hcall
        clear hcall
        go_wp2_with fail
        first
          | (go_region_with (go_at_call 57; refine (HCALL.out _ (by first | exact Below.refl _ _ | exact (Below.refl _ _).drew | exact below_n (Below.refl _ _) _)).mono ?_; rintro e w3 ⟨rfl, hb3⟩; have hb4 : Below wr.heap.size wr w3 := (by first | exact hb3 | exact ((Below.refl _ _).drew).trans hb3 | exact (below_n (Below.refl _ _) _).trans hb3)))
          | fail
        all_goals
          have hb5 := hb.trans (hb4.mono hb.size)
          cases B with
          | true =>
            have H1 := Lib.hid (HB.out.1 rfl)
            clear HB
            go_wp2_with fail
            go_roundw
            case rel => exact ⟨k + 1, by go_num, by omega, hb5, H1.out⟩
            case measure => simp [intOf]; omega
          | false =>
            have H2 := Lib.hid (HB.out.2 rfl)
            clear HB
            go_wp2_with fail
            go_ret
            exact ⟨ret_bool H2.out.symm, hb5⟩
      · have i1 : ¬ ((k : Int) < (n : Int)) := by omega
        have HT : Hid (decide (l.map FL.pl = m.map FL.pl) = true) := by
          show _ = true
          rw [decide_eq_true_eq]
          have h := HE.out
          have h1 := HZ.out
          have h2 := HZ'.out
          rwa [List.take_of_length_le (by rw [List.length_map]; omega), List.take_of_length_le (by rw [List.length_map]; omega)] at h
        go_wp2_with fail
        go_ret
        exact ⟨ret_bool HT.out.symm, hb⟩
  · have i1 : ((n : Int) != (n' : Int)) = true := by simp; omega
    have hd : decide (l.map FL.pl = m.map FL.pl) = false := by
      rw [decide_eq_false_iff_not]
      intro h
      have := congrArg List.length h
      rw [List.length_map, List.length_map] at this
      omega
    rw [hd]
    clear hd hz hz' hr hr' hi hi'
    go_enter Try.func32, Try.ntmps32
    go_wp2_with fail
    go_ret
    exact ⟨rfl, Below.refl _ _⟩

end Go.Proofs.Ytejfilphnebckaa
