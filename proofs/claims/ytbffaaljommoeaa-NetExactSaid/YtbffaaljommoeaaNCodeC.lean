/-
  The landed package net: Put, Double.
-/
import Derived.Test.YtbffaaljommoeaaNCodeB
import Derived.Deep.RegionLaw
import Derived.Deep.CutBlock
namespace Go.Proofs.Ytbffaaljommoeaa
open Go.RowKit

section
variable {w w6 w7 : World} {g k : Nat} {F : Nat → Prop} {L : PN} {V : Nat → Value}
/-- one message more in a link's row -/
theorem NetIn.more {A : Option Addr} {n c g' c' : Nat} {m : List Int} {o : Obj} (h : NetIn w g F V L) (hk : k < 256) (hv : V k = .slice A n c) (hn : (L k).length = n) (hb : Below w.heap.size w w6)
    (ho : w7.ownsRow 0 9 1 (.slice (some ⟨g', 0, none⟩) (n + 1) c') (n + 1) (txtsN (L k) ++ [.string (strOfNums m)])) (hg : (w6.alloc o).grownBy w7 (Value.slice A n c).ownBlock) (hl : (Value.slice A n c).ownBlock = some g' ∨ g' = (w6.alloc o).heap.size)
    (hm : Byts m) (hz : m.length ≤ 1048576) (hf : n ≠ 1024) :
    NetTo g F (L.put k (L k ++ [m])) w (w7.setCell ⟨g, k, none⟩ (.slice (some ⟨g', 0, none⟩) (n + 1) c')) ∧ w7.cell? ⟨g, k, none⟩ = some (.slice A n c) ∧ w7.frozen? ⟨g, k, none⟩ = false := by
  have hz6 := hb.size
  have ht : Touch (fun b => (V k).ownBlock = some b) w w7 := ((Touch.of hb : Touch (fun b => (V k).ownBlock = some b) w w6).alloc o).trans (Touch.grown (F := fun b => (V k).ownBlock = some b) hg fun b hb => by rw [hv]; exact hb) fun _ hk => .inl hk
  have hgl := h.lt _ h.here
  have hng := h.ng k hk
  have h1 := h.cell hk
  rw [hv] at h1
  refine ⟨h.rowTo hk ht (l2 := L k ++ [m]) ?_ (fun b hb => ?_) ((h.ok k hk).snoc (by rw [hn]; exact hf) hm hz), (ht.cell (o := k) hgl hng).trans h1, (ht.frozen (o := k) hgl hng).trans (h.fz k)⟩
  · rw [txtsN_append]
    exact own_cast ho (by simp [hn])
  · have e : g' = b := Option.some.inj hb
    subst e
    rcases hl with e | e
    · exact .inl (by rw [hv]; exact e)
    · right; rw [e]; simp; omega
end

set_option maxHeartbeats 2000000 in
theorem put_is {F : Nat → Prop} {L : PN} (g : Nat) (f t : Int) (A : Option Addr) (n c : Nat) (zs : List Int) (w : World) (h : IsNet w g F L) (hf : Fit f) (ht : Fit t) (hz : zs.length = n) (hr : Rd w A (u8s zs)) (hy : Byts zs) (hn : n ≤ 1048576) :
    Calls Try.prog 20 #[.pointer (some ⟨g, 0, none⟩), .int .i64 f, .int .i64 t, .slice A n c] w fun e w' => e = .returned (.int .i64 (nPut L f t zs).2) ∧ NetTo g F (nPut L f t zs).1 w w' := by
  have HL := Lib.hid (link_is g f t w hf ht)
  have HI := Lib.hid h
  cases hb : bothN f t with
  | false =>
    rw [linkA_no hb] at HL
    rw [nPut, if_pos hb]
    clear hf ht hb h hz hr hy hn
    go_enter Try.func20, Try.ntmps20
    go_wp2_with fail
    refine HL.out.mono ?_
    rintro e w' ⟨rfl, rfl⟩
    go_wp2_with fail
    go_ret
    exact ⟨rfl, netTo_same HI.out (Below.refl _ _)⟩
  | true =>
    rw [linkA_yes hb] at HL
    rw [nPut, if_neg (by rw [hb]; decide)]
    have hw := wayN_lt hb
    obtain ⟨V, h⟩ := h
    obtain ⟨q, hq⟩ : ∃ q, wayN f t = q := ⟨_, rfl⟩
    rw [hq] at hw HL ⊢
    obtain ⟨nL, hnL⟩ : ∃ nL, (L q).length = nL := ⟨_, rfl⟩
    obtain ⟨A1, c1, hv, hnc, hcm, _⟩ := h.slice hw hnL
    have k1 := h.cell hw
    have hle := (h.ok q hw).1
    rw [hnL] at hle ⊢
    rw [hv] at k1
    by_cases hful : nL = 1024
    · rw [if_pos hful]
      subst hful
      clear hf ht hb h hz hr hy hn hw hq hnL hv
      go_enter Try.func20, Try.ntmps20
      go_wp2_with fail
      refine HL.out.mono ?_
      rintro e w' ⟨rfl, rfl⟩
      go_wp2_with fail
      go_ret
      exact ⟨rfl, netTo_same HI.out (Below.refl _ _)⟩
    · rw [if_neg hful]
      have hcv := conv_any w.drew hz (hr.drew) c
      have hgl := h.lt _ h.here
      have hrow := h.row q hw
      rw [hv, hnL] at hrow
      have HROW : Hid (w.drew.ownsRow 0 9 1 (.slice A1 nL c1) nL (txtsN (L q))) := hrow
      have HH := Lib.hid h
      have HV := Lib.hid hv
      have HN := Lib.hid hnL
      have HY := Lib.hid hy
      have hzz : zs.length ≤ 1048576 := by omega
      have HZ := Lib.hid hzz
      have HFU := Lib.hid hful
      have i1 : ((nL : Int) == 1024) = false := by simp; omega
      have ka : (w.drew.alloc (.cells #[.string (strOfNums zs)] 9)).cell? ⟨g, q, none⟩ = some (.slice A1 nL c1) := (((Below.refl w.heap.size w).drew.alloc (Nat.le_refl _) _).cell (p := ⟨g, q, none⟩) hgl).trans k1
      clear hf ht hb h hz hr hy hn hq hnL hv hrow hzz hful
      go_enter Try.func20, Try.ntmps20
      go_wp2_with fail
      refine HL.out.mono ?_
      rintro e w' ⟨rfl, rfl⟩
      go_wp2_with fail
      go_region_law (first
        | (refine step_app_lies _ (by rfl) _ _ _ (by rfl) 0 9 (.string ByteArray.empty) 16 Try.underlying51 info_str rfl (by decide) _ nL (txtsN (L q)) (by rfl) (HROW.out.alloc _) w.heap.size (.string (strOfNums zs)) (by rfl) (cell_new _ _ _) (by rfl) (by omega) (Nat.zero_le _) ?_; intro g' c' w7 ho7 hg7 hl7; obtain ⟨hto, k7, f7⟩ := HH.out.more hw HV.out HN.out (Below.refl _ _).drew ho7 hg7 hl7 HY.out HZ.out HFU.out))
      all_goals
        have HT := Lib.hid hto
        clear hto ho7 hg7 hl7 ka k1
        go_wp2_with fail
        go_ret
        exact ⟨rfl, HT.out⟩

set_option maxHeartbeats 2000000 in
theorem double_is {F : Nat → Prop} {L : PN} (g : Nat) (f t k : Int) (w : World) (h : IsNet w g F L) (hf : Fit f) (ht : Fit t) :
    Calls Try.prog 14 #[.pointer (some ⟨g, 0, none⟩), .int .i64 f, .int .i64 t, .int .i64 k] w fun e w' => e = .returned (.int .i64 (nDouble L f t k).2) ∧ NetTo g F (nDouble L f t k).1 w w' := by
  have HL := Lib.hid (find_is g f t k w h hf ht)
  have HI := Lib.hid h
  cases hkk : hasK L f t k with
  | false =>
    rw [if_neg (by rw [hkk]; decide)] at HL
    rw [nDouble, if_pos hkk]
    clear hf ht h hkk
    go_enter Try.func14, Try.ntmps14
    go_wp2_with fail
    refine HL.out.mono ?_
    rintro e w' ⟨rfl, rfl⟩
    go_wp2_with fail
    go_ret
    exact ⟨rfl, netTo_same HI.out (Below.refl _ _)⟩
  | true =>
    rw [if_pos hkk] at HL
    rw [nDouble, if_neg (by rw [hkk]; decide)]
    have hb := hasK_both hkk
    have hw := wayN_lt hb
    have hk := hasK_iff.1 hkk
    rw [at_yes hb] at hk
    obtain ⟨j, rfl⟩ : ∃ j : Nat, k = j := ⟨k.toNat, by omega⟩
    obtain ⟨V, h⟩ := h
    obtain ⟨x, hx⟩ : ∃ x, (L (wayN f t))[j]? = some x := ⟨(L (wayN f t))[j]'(by omega), by simp [show j < (L (wayN f t)).length by omega]⟩
    have hmsg : msgN L f t j = x := by rw [msgN, at_yes hb, Int.toNat_natCast, hx]; rfl
    rw [hmsg]
    have hxo := (h.ok _ hw).2 x (List.mem_of_getElem? hx)
    obtain ⟨q, hq⟩ : ∃ q, wayN f t = q := ⟨_, rfl⟩
    rw [hq] at hw HL hx hk ⊢
    obtain ⟨nL, hnL⟩ : ∃ nL, (L q).length = nL := ⟨_, rfl⟩
    rw [hnL] at hk
    obtain ⟨gr, c1, hv, hnc, hcm⟩ := h.rowAt hw hnL (by omega)
    have k1 := h.cell hw
    have hle := (h.ok q hw).1
    rw [hnL] at hle ⊢
    rw [hv] at k1
    by_cases hful : nL = 1024
    · rw [if_pos hful]
      subst hful
      clear hf ht hb h hw hq hnL hv hk hkk hmsg hx hxo
      go_enter Try.func14, Try.ntmps14
      go_wp2_with fail
      refine HL.out.mono ?_
      rintro e w' ⟨rfl, rfl⟩
      go_wp2_with fail
      go_ret
      exact ⟨rfl, netTo_same HI.out (Below.refl _ _)⟩
    · rw [if_neg hful]
      have hgl := h.lt _ h.here
      have hrow := h.row q hw
      rw [hv, hnL] at hrow
      have hrl := (own_lt hrow (g := gr) rfl).1
      have k2 := hrow.cells (g := gr) rfl j _ (txtsN_at hx)
      rw [Addr.add_lit, Nat.zero_add] at k2
      have HROW : Hid (w.drew.ownsRow 0 9 1 (.slice (some ⟨gr, 0, none⟩) nL c1) nL (txtsN (L q))) := hrow
      have HH := Lib.hid h
      have HV := Lib.hid hv
      have HN := Lib.hid hnL
      have HXO := Lib.hid hxo
      have HFU := Lib.hid hful
      have i1 : ((nL : Int) == 1024) = false := by simp; omega
      have i2 : (0 : Int) ≤ (j : Int) := by omega
      have i3 : (j : Int) < (nL : Int) := by omega
      have ka : (w.drew.alloc (.cells #[.string (strOfNums x)] 9)).cell? ⟨g, q, none⟩ = some (.slice (some ⟨gr, 0, none⟩) nL c1) := (((Below.refl w.heap.size w).drew.alloc (Nat.le_refl _) _).cell (p := ⟨g, q, none⟩) hgl).trans k1
      have kb : (w.drew.alloc (.cells #[.string (strOfNums x)] 9)).cell? ⟨gr, j, none⟩ = some (.string (strOfNums x)) := (((Below.refl w.heap.size w).drew.alloc (Nat.le_refl _) _).cell (p := ⟨gr, j, none⟩) hrl).trans k2
      clear hf ht hb h hq hnL hv hrow hful hk hkk hmsg hx hxo
      go_enter Try.func14, Try.ntmps14
      go_wp2_with fail
      refine HL.out.mono ?_
      rintro e w' ⟨rfl, rfl⟩
      go_wp2_with fail
      go_region_law (first
        | (refine step_app_lies _ (by rfl) _ _ _ (by rfl) 0 9 (.string ByteArray.empty) 16 Try.underlying51 info_str rfl (by decide) _ nL (txtsN (L q)) (by rfl) (HROW.out.alloc _) w.heap.size (.string (strOfNums x)) (by rfl) (cell_new _ _ _) (by rfl) (by omega) (Nat.zero_le _) ?_; intro g' c' w7 ho7 hg7 hl7; obtain ⟨hto, k7, f7⟩ := HH.out.more hw HV.out HN.out (Below.refl _ _).drew ho7 hg7 hl7 HXO.out.1 HXO.out.2 HFU.out))
      all_goals
        have HT := Lib.hid hto
        clear hto ho7 hg7 hl7 ka k1 kb k2
        go_wp2_with fail
        go_ret
        exact ⟨rfl, HT.out⟩

end Go.Proofs.Ytbffaaljommoeaa
