/-
  The landed package keep: take.
-/
import Derived.Test.YtaccmjgnggepjaaKCodeG
namespace Go.Proofs.Ytaccmjgnggepjaa
open Go.RowKit

theorem cutP_size (c s : ByteArray) : (cutP c s).size ≤ s.size := by
  rw [size_data, size_data s]
  unfold cutP Lib.trimPrefix
  split
  · simp
  · simp
theorem parseP_size {r : ByteArray} {p : PP} (h : parseP r = some p) : p.2.size ≤ r.size := by
  unfold parseP at h
  split at h
  · cases h
  · split at h
    · cases h
    · split at h
      · cases h
      · cases h
        have := cutP_size bPlus r
        simp only [ByteArray.size_extract]
        omega
section
variable {K : LogK} {gk gl gd : Nat} {F FL : Nat → Prop} {S : K.LS} {p vP : Value} {z : Int} {l l' : List PP} {w w1 w2 : World}
theorem KeepGo.from (h : KeepGo K gk gl gd F FL S p z l w1 w2) (ht : Touch F w w1) : KeepGo K gk gl gd F FL S p z l w w2 := by
  obtain ⟨F', vP', h1, h2, h3⟩ := h
  refine ⟨F', vP', h1, ht.trans h2 fun j hj => .inl hj, fun j hj => ?_⟩
  rcases h3 j hj with h | h
  · exact .inl h
  · exact .inr (Nat.le_trans ht.size h)

set_option maxRecDepth 100000 in
set_option maxHeartbeats 2000000 in
theorem ktake_is (hK : LogC K) (r : ByteArray) (zn : Nat) (w : World) (h : KeepAt K w gk gl gd F FL S p vP (zn : Nat) (sizeP l : Nat) l) (hg : GoodP l) (hr : r.size ≤ 4096) (hz : zn ≤ 1000000) :
    Calls Try.prog 27 #[.pointer (some ⟨gk, 0, none⟩), .string r] w fun e w' => e = .returned (.tuple #[]) ∧ KeepGo K gk gl gd F FL S p ((zn + (r.size + 16) : Nat) : Int) (takeP l r) w w' := by
  obtain ⟨nr, hnr⟩ : ∃ nr, r.size = nr := ⟨_, rfl⟩
  have e9 : (r.size : Int) = (nr : Int) := by rw [hnr]
  obtain ⟨Z, hZ⟩ : ∃ Z, zn + (nr + 16) = Z := ⟨_, rfl⟩
  have e1 : IntKind.i64.wrap ((nr : Int) + 16) = (nr : Int) + 16 := IntWalk.i64_in _ (by omega)
  have e2 : IntKind.i64.wrap ((zn : Int) + ((nr : Int) + 16)) = (Z : Int) := by rw [IntKind.wrap_i64]; omega
  have hrm : r.size ≤ 1000000 := by omega
  have hprm : ∀ q, parseP r = some q → q.2.size ≤ 4096 := fun q hq => Nat.le_trans (parseP_size hq) hr
  rw [hnr, hZ]
  have c1 := h.c1
  have f1 := h.fz 1
  obtain ⟨w1, hw1⟩ : ∃ w1, w1 = w.setCell ⟨gk, 1, none⟩ (.int .i64 (Z : Int)) := ⟨_, rfl⟩
  have h1 : KeepAt K w1 gk gl gd F FL S p vP (Z : Int) (sizeP l : Nat) l := by rw [hw1]; exact h.set1 hK _
  have HT1 : Hid (Touch F w w1) := by show Touch _ _ _; rw [hw1]; exact (Touch.refl F w).set (.inl h.here) _
  have H1 := Lib.hid h1
  have HW := Lib.hid hw1
  have HG := Lib.hid hg
  have HCM := kcut_is bMinus r w1
  have HPA := Lib.hid (parse_is r w1 hrm)
  obtain ⟨R, hR⟩ : ∃ R, takeP l r = R := ⟨_, rfl⟩
  rw [hR]
  unfold takeP at hR
  have HB : Hid (∀ w', Below w1.heap.size w1 w' → KeepAt K w' gk gl gd F FL S p vP (Z : Int) (sizeP l : Nat) l) := fun w' hb => h1.below hK hb
  clear h h1 hw1 hg hZ hnr hr hrm
  cases hp : preP bMinus r with
  | true =>
    rw [hp] at hR HCM
    rw [if_pos rfl] at hR
    obtain ⟨c, hc⟩ : ∃ c, cutP bMinus r = c := ⟨_, rfl⟩
    rw [hc] at hR HCM
    have HRM := kremove_is hK c w1 H1.out HG.out
    rw [hR] at HRM
    have HCM2 := Lib.hid HCM
    have HRM2 := Lib.hid HRM
    clear HCM HRM hR hc hp
    go_enter Try.func27, Try.ntmps27
    go_upto_region 1 with fail
    rw [← HW.out]
    go_wp2_with (go_at_call 46; refine HCM2.out.mono ?_; rintro e w' ⟨rfl, rfl⟩)
    refine HRM2.out.mono ?_
    rintro e w3 ⟨rfl, hgo⟩
    go_wp2_with fail
    (try simp only [Exit.inBlock, Exit.then])
    refine bodyPost_ret (results_none rfl _ _ _) rfl ?_
    exact ⟨rfl, hgo.from HT1.out⟩
  | false =>
    rw [hp] at hR HCM
    rw [if_neg (by decide)] at hR
    have HCM2 := Lib.hid HCM
    cases hq : parseP r with
    | none =>
      rw [hq] at hR
      simp only at hR
      have hv : parseV r = (ByteArray.empty, ByteArray.empty, false) := by unfold parseV; rw [hq]
      rw [hv] at HPA
      have HPA2 := Lib.hid HPA.out
      subst hR
      clear HCM hp hq hv hprm HPA
      go_enter Try.func27, Try.ntmps27
      go_upto_region 1 with fail
      rw [← HW.out]
      go_wp2_with (go_at_call 46; refine HCM2.out.mono ?_; rintro e w' ⟨rfl, rfl⟩)
      refine HPA2.out.mono ?_
      rintro e w3 ⟨rfl, hb3⟩
      go_wp2_with fail
      go_end0
      exact ⟨rfl, KeepGo.from ⟨F, vP, HB.out _ hb3, Touch.of hb3, fun j hj => .inl hj⟩ HT1.out⟩
    | some q =>
      obtain ⟨k, v⟩ := q
      rw [hq] at hR
      simp only at hR
      have hv : parseV r = (k, v, true) := by unfold parseV; rw [hq]
      rw [hv] at HPA
      have HPA2 := Lib.hid HPA.out
      have hv8 := hprm _ hq
      simp only at hv8
      have HCK : Hid (∀ w', Below w1.heap.size w1 w' → Calls Try.prog 32 #[.pointer (some ⟨gk, 0, none⟩), .string k, .string v] w' fun e w2 => e = .returned (.int .i64 (checkP l k v)) ∧ Below w'.heap.size w' w2) := fun w' hb => check_is hK k v w' (HB.out w' hb) HG.out (by omega)
      obtain ⟨ck, hck⟩ : ∃ ck, checkP l k v = ck := ⟨_, rfl⟩
      rw [hck] at hR HCK
      have HSE : Hid (ck = 0 → ∀ w', Below w1.heap.size w1 w' → Calls Try.prog 49 #[.pointer (some ⟨gk, 0, none⟩), .string k, .string v] w' fun e w2 => e = .returned (.tuple #[]) ∧ KeepGo K gk gl gd F FL S p (Z : Int) (setP l k v) w' w2) := fun h0 w' hb => kset_is hK k v w' (HB.out w' hb) HG.out (by rw [hck]; exact h0)
      clear HCM hp hq hv hprm HPA hv8 hck
      by_cases h0 : ck = 0
      · rw [if_pos h0] at hR
        subst hR
        have k0 : (ck == 0) = true := by simp [h0]
        have HSE2 := Lib.hid (HSE.out h0)
        clear HSE h0
        go_enter Try.func27, Try.ntmps27
        go_upto_region 1 with fail
        rw [← HW.out]
        go_wp2_with (go_at_call 46; refine HCM2.out.mono ?_; rintro e w' ⟨rfl, rfl⟩)
        refine HPA2.out.mono ?_
        rintro e w3 ⟨rfl, hb3⟩
        go_wp2_with fail
        refine (HCK.out _ hb3).mono ?_
        rintro e w4 ⟨rfl, hb4⟩
        have hb14 := hb3.trans (hb4.mono hb3.size)
        go_wp2_with fail
        refine (HSE2.out _ hb14).mono ?_
        rintro e w5 ⟨rfl, hgo⟩
        go_wp2_with fail
        go_end0
        exact ⟨rfl, hgo.from (HT1.out.then hb14)⟩
      · rw [if_neg h0] at hR
        subst hR
        have k0 : (ck == 0) = false := by simp [h0]
        clear HSE
        go_enter Try.func27, Try.ntmps27
        go_upto_region 1 with fail
        rw [← HW.out]
        go_wp2_with (go_at_call 46; refine HCM2.out.mono ?_; rintro e w' ⟨rfl, rfl⟩)
        refine HPA2.out.mono ?_
        rintro e w3 ⟨rfl, hb3⟩
        go_wp2_with fail
        refine (HCK.out _ hb3).mono ?_
        rintro e w4 ⟨rfl, hb4⟩
        have hb14 := hb3.trans (hb4.mono hb3.size)
        go_wp2_with fail
        go_end0
        exact ⟨rfl, KeepGo.from ⟨F, vP, HB.out _ hb14, Touch.of hb14, fun j hj => .inl hj⟩ HT1.out⟩
end

end Go.Proofs.Ytaccmjgnggepjaa
/-
  The landed package keep: clear.
-/
namespace Go.Proofs.Ytaccmjgnggepjaa
open Go.RowKit

section
variable {K : LogK} {gk gl gd : Nat} {F FL : Nat → Prop} {S : K.LS} {p vP : Value} {z : Int} {l : List PP} {w : World}

theorem sets_up {k : Nat} {x : PP} (h : l[k]? = some x) : strs (setsP (l.take (k + 1))) = strs (setsP (l.take k)) ++ [.string (setR x)] ∧ sizeL (setsP (l.take (k + 1))) = sizeL (setsP (l.take k)) + ((setR x).size + 16) := by
  rw [List.take_add_one, h]
  simp only [Option.toList_some, setsP, List.map_append, List.map_cons, List.map_nil]
  refine ⟨by simp [strs], ?_⟩
  rw [sizeL_append]
  simp [sizeL]
theorem sets_take {k : Nat} : sizeL (setsP (l.take k)) ≤ sizeP l := by
  refine Nat.le_trans (setsP_size _) ?_
  have : sizeP l = sizeP (l.take k) + sizeP (l.drop k) := by rw [← sizeP_append, List.take_append_drop]
  omega
theorem sets_few (hg : ∀ x ∈ l, OkP x) : ∀ s ∈ setsP l, s.size ≤ 4096 := fun s hs => by
  obtain ⟨x, hx, rfl⟩ := List.mem_map.1 hs
  have := (hg x hx).2.2
  rw [sizeR]
  omega

/-- what a clearing leaves -/
def ClearTo (K : LogK) (gk gl gd : Nat) (F : Nat → Prop) (R : K.LS × Int) (vP : Value) (z : Int) (l : List PP) (w w' : World) : Prop :=
  ∃ F' FL' : Nat → Prop, KeepAt K w' gk gl gd F' FL' R.1 (.pointer (some ⟨gl, 0, none⟩)) vP (if R.2 ≠ 0 then z else (sizeL (setsP l) : Nat)) (sizeP l : Nat) l ∧ Touch F w w' ∧ ∀ j, F' j → F j ∨ w.heap.size ≤ j

set_option maxRecDepth 100000 in
set_option maxHeartbeats 4000000 in
theorem kclear_is (hK : LogC K) (h : KeepAt K w gk gl gd F FL S (.pointer (some ⟨gl, 0, none⟩)) vP z (sizeP l : Nat) l) (hg : GoodP l) (hc : (K.dsk S).calls ≤ 900000) :
    Calls Try.prog 56 #[.pointer (some ⟨gk, 0, none⟩)] w fun e w' => e = .returned (.int .i64 (K.reset S (setsP l)).2) ∧ ClearTo K gk gl gd F (K.reset S (setsP l)) vP z l w w' := by
  obtain ⟨A, c, rfl, _, _, _⟩ := h.slice
  have c2 := h.c2
  have HB : Hid (∀ w', Below w.heap.size w w' → KeepAt K w' gk gl gd F FL S (.pointer (some ⟨gl, 0, none⟩)) (.slice A l.length c) z (sizeP l : Nat) l) := fun w' hb => h.below hK hb
  have HH := Lib.hid h
  have HCL := Lib.hid hc
  obtain ⟨R, hR⟩ : ∃ R, K.reset S (setsP l) = R := ⟨_, rfl⟩
  rw [hR]
  have HR := Lib.hid hR
  obtain ⟨n, hnn⟩ : ∃ n, l.length = n := ⟨_, rfl⟩
  have hn := hg.len
  rw [hnn] at c2 HB hn HH ⊢
  have HN := Lib.hid hnn
  have HG := Lib.hid hg
  clear h hnn hc hR hg
  go_enter Try.func56, Try.ntmps56
  go_wp2_with (at_make; refine wpList_make_room _ rfl _ _ 50 rfl w.heap.size 9 (.string ByteArray.empty) 16 Try.underlying50 info_str (by decide) n rfl (by simp [go_sem]) (by omega) (Nat.le_refl _) ?_)
  intro v1 w1 ho1 hb1
  have k2 := (HB.out _ hb1).c2
  clear c2
  go_wp2_with fail
  go_loopw [3, 4, 20] (fun t v i wr => ∃ k tt : Nat, i = .int .i64 k ∧ t = .int .i64 tt ∧ k ≤ n ∧ tt ≤ 262144 ∧ Hid (sizeL (setsP (l.take k)) = tt) ∧ wr.ownsRow w.heap.size 9 1 v k (strs (setsP (l.take k))) ∧ Below w.heap.size w wr) (fun _ _ i _ => n - (intOf i).toNat)
  case atStart => exact ⟨0, 0, rfl, rfl, by omega, by omega, by rw [List.take_zero]; rfl, by rw [List.take_zero]; exact ho1, hb1⟩
  case round =>
    obtain ⟨k, tt, rfl, rfl, hk, htt, HTT, hown, hb⟩ := hrel
    have i0 : (0 : Int) ≤ (k : Int) := by omega
    by_cases hlt : k < n
    · have i1 : (k : Int) < (n : Int) := by omega
      have h2 := HB.out _ hb
      obtain ⟨gr, cap, hv, _, _, _, _⟩ := h2.rowAt (by rw [HN.out]; omega)
      simp only [Value.slice.injEq] at hv
      obtain ⟨rfl, hq, rfl⟩ := hv
      clear hq
      obtain ⟨x, hx⟩ : ∃ x, l[k]? = some x := ⟨_, List.getElem?_eq_getElem (by rw [HN.out]; exact hlt)⟩
      obtain ⟨d0, d1⟩ := h2.cells hx
      obtain ⟨u1, u2⟩ := sets_up hx
      have hxo := HG.out.2.2 x (List.mem_of_getElem? hx)
      have hsk : sizeL (setsP (l.take (k + 1))) ≤ 262144 := Nat.le_trans sets_take HG.out.2.1
      obtain ⟨r, hr⟩ : ∃ r, setR x = r := ⟨_, rfl⟩
      rw [hr] at u1 u2
      obtain ⟨nr, hnr⟩ : ∃ nr, r.size = nr := ⟨_, rfl⟩
      rw [hnr] at u2
      have e9 : (r.size : Int) = (nr : Int) := by rw [hnr]
      rw [HTT.out] at u2
      have HU := Lib.hid u1
      have HU2 := Lib.hid u2
      rw [u2] at hsk
      have HSET : Hid (∀ wX, Calls Try.prog 34 #[.string x.1, .string x.2] wX fun e w' => e = .returned (.string r) ∧ Below wX.heap.size wX w') := fun wX => by rw [← hr]; exact setting_is x wX hxo
      have e1 : IntKind.i64.wrap ((nr : Int) + 16) = (nr : Int) + 16 := IntWalk.i64_in _ (by omega)
      obtain ⟨t2, ht2⟩ : ∃ t2, tt + (nr + 16) = t2 := ⟨_, rfl⟩
      have e2 : IntKind.i64.wrap ((tt : Int) + ((nr : Int) + 16)) = (t2 : Int) := by rw [IntKind.wrap_i64]; omega
      rw [ht2] at hsk
      have HT2 := Lib.hid ht2
      have hz := hb.size
      obtain ⟨wa, hwa⟩ : ∃ wa, wa = wr.alloc (.cells #[.string x.1, .string x.2] 65) := ⟨_, rfl⟩
      have hba : Below w.heap.size w wa := by rw [hwa]; exact hb.alloc hz _
      have hoa := hown.alloc (.cells #[.string x.1, .string x.2] 65)
      rw [← hwa] at hoa
      have HOA := Lib.hid hoa
      have bxa : Box wa wr.heap.size [.string x.1, .string x.2] := by rw [hwa]; exact box_new wr [.string x.1, .string x.2] 65
      have b0 := bxa.2 0 _ rfl
      have b1 := bxa.2 1 _ rfl
      have HWA := Lib.hid hwa
      clear hoa h2 hx hown u1 u2 hr hnr ht2 hxo hwa bxa
      go_upto_region 6 with fail
      rw [← HWA.out]
      go_wp2_with fail
      refine (HSET.out _).mono ?_
      rintro e w3 ⟨rfl, hb3⟩
      have hb13 := hba.trans (hb3.mono hba.size)
      have HO3 := Lib.hid ((own_more (own_below HOA.out (hb3.mono (Nat.le_refl _))) (Nat.le_refl _)).alloc (.cells #[.string r] 9))
      have hz3 := hb13.size
      clear b0 b1 d0 d1
      go_wp2_with (first
        | (at_builtin; refine wpList_app_one _ rfl _ _ 50 rfl w.heap.size 9 (.string ByteArray.empty) 16 Try.underlying50 info_str rfl (by decide) _ k _ rfl HO3.out w3.heap.size (.string r) rfl (cell_new _ _ _) rfl (by omega) (by simp; omega) ?_))
      intro v5 w5 ho5 hb5
      have hb15 := (hb13.alloc hz3 _).trans hb5
      have ho6 := own_conv ho5 HU.out.symm rfl
      go_wp2_with fail
      go_roundw
      case rel => exact ⟨k + 1, t2, by go_num, by first | rfl | go_num, by omega, hsk, HU2.out.trans HT2.out, ho6, hb15⟩
      case measure => simp [intOf]; omega
    · have i1 : ¬ ((k : Int) < (n : Int)) := by omega
      obtain rfl : k = n := by omega
      have htk : l.take k = l := List.take_of_length_le (by rw [HN.out]; omega)
      rw [htk] at hown HTT
      have hlen : (setsP l).length = k := by rw [setsP, List.length_map, HN.out]
      have hk1 : k ≤ 100000 := by omega
      have hfar : ∀ j, FL j → ¬ w.heap.size ≤ j := fun j hf => Nat.not_le.2 (HH.out.lt _ (HH.out.sub _ hf))
      have hsf : ∀ s ∈ setsP l, s.size ≤ 1000000 := fun s hs => Nat.le_trans (sets_few HG.out.2.2 s hs) (by omega)
      obtain ⟨A5, c5, rfl, hnc5, hcm5, hr5, hlo5, _⟩ := own_val hown
      have h2 := HB.out _ hb
      have k0 := h2.c0
      have HTX : Hid (TxtIn wr FL A5 k c5 (setsP l)) := ⟨hlen, hr5, hnc5, hcm5, fun a ha _ hf => hfar _ hf (hlo5 a ha)⟩
      have HRS := Lib.hid (hK.reset_ A5 k c5 (setsP l) h2.lg HTX.out hk1 hsf HCL.out)
      rw [HR.out] at HRS
      have HBB := Lib.hid hb
      clear h2 hown hlen htk hr5 hlo5 hb hcm5 hnc5 hfar hsf hk1
      go_wp2_with fail
      refine HRS.out.mono ?_
      rintro e w3 ⟨rfl, hto⟩
      obtain ⟨F3, FL3, h3, ht3, hF3⟩ := HH.out.log hK HBB.out hto
      have H3 := Lib.hid h3
      have HT3 := Lib.hid ht3
      have HF3 := Lib.hid hF3
      have f1 := h3.fz 1
      have c1 := h3.c1
      obtain ⟨x, hx⟩ : ∃ x, R.2 = x := ⟨_, rfl⟩
      rw [hx]
      have HXX := Lib.hid hx
      clear hx h3 ht3 hF3 hto
      by_cases h0 : x = 0
      · have j1 : (x != 0) = false := by simp [h0]
        have h4 := (H3.out.set1 hK (sizeL (setsP l) : Nat))
        rw [HTT.out] at h4
        have H4 := Lib.hid h4
        have HT4 := Lib.hid (HT3.out.set (.inl HH.out.here : F gk ∨ w.heap.size ≤ gk) (o := 1) (.int .i64 (tt : Int)))
        have HX := Lib.hid h0
        clear h4 h0
        go_wp2_with fail
        go_ret
        refine ⟨by rw [HXX.out, HX.out]; rfl, F3, FL3, ?_, HT4.out, HF3.out⟩
        rw [HXX.out, if_neg (fun hn => hn HX.out), HTT.out]
        exact H4.out
      · have j1 : (x != 0) = true := by simp [h0]
        have HX := Lib.hid h0
        clear h0
        go_wp2_with fail
        go_ret
        refine ⟨by rw [HXX.out]; rfl, F3, FL3, ?_, HT3.out, HF3.out⟩
        rw [HXX.out, if_pos HX.out]
        exact H3.out
end

end Go.Proofs.Ytaccmjgnggepjaa
/-
  The landed package keep: write, Put, Drop, Sync.
-/
namespace Go.Proofs.Ytaccmjgnggepjaa
open Go.RowKit

section
variable {K : LogK} {gk gl gd : Nat} {F FL : Nat → Prop} {S : K.LS} {vP : Value} {l : List PP} {w : World}

set_option maxRecDepth 100000 in
set_option maxHeartbeats 4000000 in
theorem kwrite_is (hK : LogC K) (zn : Nat) (r : ByteArray) (h : KeepAt K w gk gl gd F FL S (.pointer (some ⟨gl, 0, none⟩)) vP (zn : Nat) (sizeP l : Nat) l) (hg : GoodP l) (hz : zn ≤ 524288) (hr8 : r.size ≤ 4096) (hc : (K.dsk S).calls ≤ 800000) :
    Calls Try.prog 33 #[.pointer (some ⟨gk, 0, none⟩), .string r] w fun e w' => e = .returned (.int .i64 (kWrite (⟨S, false, zn, l⟩ : KS K) r).2) ∧ KeepTo K gk gd F (kWrite (⟨S, false, zn, l⟩ : KS K) r).1 w w' := by
  have c1 := h.c1
  have HH := Lib.hid h
  have HG := Lib.hid hg
  obtain ⟨nr, hnr⟩ : ∃ nr, r.size = nr := ⟨_, rfl⟩
  have e9 : (r.size : Int) = (nr : Int) := by rw [hnr]
  have HNR := Lib.hid hnr
  have e1 : IntKind.i64.wrap ((zn : Int) + (nr : Int)) = (zn : Int) + (nr : Int) := IntWalk.i64_in _ (by omega)
  have e2 : IntKind.i64.wrap ((zn : Int) + (nr : Int) + 16) = (zn : Int) + (nr : Int) + 16 := IntWalk.i64_in _ (by omega)
  have HWR : Hid (kWrite (⟨S, false, zn, l⟩ : KS K) r = if 524288 < zn + nr + 16 then (if (K.reset S (setsP l)).2 ≠ 0 then (⟨(K.reset S (setsP l)).1, true, zn, l⟩, (K.reset S (setsP l)).2) else kApp ⟨(K.reset S (setsP l)).1, false, sizeL (setsP l), l⟩ r) else kApp ⟨S, false, zn, l⟩ r) := by show _ = _; rw [kWrite, ← hnr]
  obtain ⟨R, hR⟩ : ∃ R, kWrite (⟨S, false, zn, l⟩ : KS K) r = R := ⟨_, rfl⟩
  rw [hR] at HWR ⊢
  clear h hg hR
  by_cases hbig : 524288 < zn + nr + 16
  · have i1 : (524288 : Int) < (zn : Int) + (nr : Int) + 16 := by omega
    have hw := HWR.out
    rw [if_pos hbig] at hw
    have HCL := Lib.hid (kclear_is hK HH.out HG.out (by omega))
    have hcr := hK.costR S (setsP l)
    obtain ⟨E, hE⟩ : ∃ E, K.reset S (setsP l) = E := ⟨_, rfl⟩
    rw [hE] at hw HCL hcr
    have HW := Lib.hid hw
    clear hw HWR hE hbig hnr
    go_enter Try.func33, Try.ntmps33
    go_wp2_with fail
    refine HCL.out.mono ?_
    rintro e w2 ⟨rfl, hto⟩
    obtain ⟨y, hy⟩ : ∃ y, E.2 = y := ⟨_, rfl⟩
    rw [hy]
    have HY := Lib.hid hy
    obtain ⟨F2, FL2, h2, ht2, hF2⟩ := hto
    have HT2 := Lib.hid ht2
    have HF2 := Lib.hid hF2
    have HS0 := Lib.hid (setsP_size l)
    have H2 := Lib.hid h2
    clear hy ht2 hF2 h2 c1
    by_cases hy0 : y = 0
    · have j2 : (y != 0) = false := by simp [hy0]
      have h2 := H2.out
      rw [if_neg (fun hn => hn (HY.out.trans hy0))] at h2
      have hw := HW.out
      rw [if_neg (fun hn => hn (HY.out.trans hy0))] at hw
      obtain ⟨sl, hsl⟩ : ∃ sl, sizeL (setsP l) = sl := ⟨_, rfl⟩
      rw [hsl] at h2 hw
      have hslm : sl ≤ 262144 := by rw [← hsl]; exact Nat.le_trans HS0.out HG.out.2.1
      have H3 := Lib.hid h2
      have HW3 := Lib.hid hw
      have HAPP : Hid (kApp (⟨E.1, false, sl, l⟩ : KS K) r = kApp ⟨E.1, false, sl, l⟩ r) := rfl
      have HC3 : Hid ((K.dsk E.1).calls ≤ 900000) := by show _ ≤ _; omega
      have hrs : r.size ≤ 1000000 := by omega
      clear h2 hw hy0 hsl H2
      have k0 := H3.out.c0
      have HAP := Lib.hid (hK.app_ r H3.out.lg (by omega) HC3.out)
      obtain ⟨Q, hQ⟩ : ∃ Q, K.app E.1 r = Q := ⟨_, rfl⟩
      have hr2 := HW3.out
      rw [kApp, hQ] at hr2
      rw [hQ] at HAP
      have HR5 := Lib.hid hr2
      clear hr2 hQ
      go_wp2_with fail
      refine HAP.out.mono ?_
      rintro e wq ⟨rfl, hto⟩
      obtain ⟨F5, FL5, h5, ht5, hF5⟩ := H3.out.log hK (Below.refl _ _) hto
      have H5 := Lib.hid h5
      have HT5 := Lib.hid (HT2.out.trans ht5 HF2.out)
      have HF5 : Hid (∀ j, F5 j → F j ∨ w.heap.size ≤ j) := fun j hj => by
        rcases hF5 j hj with h | h
        · exact HF2.out j h
        · exact .inr (Nat.le_trans HT2.out.size h)
      obtain ⟨x, hx⟩ : ∃ x, Q.2 = x := ⟨_, rfl⟩
      rw [hx]
      have HX := Lib.hid hx
      clear h5 ht5 hF5 hto hx k0
      by_cases h0 : x = 0
      · have j1 : (x != 0) = false := by simp [h0]
        have HX0 := Lib.hid h0
        have HTK := Lib.hid (ktake_is hK r sl wq H5.out HG.out hr8 (by omega))
        clear h0
        go_wp2_with fail
        refine HTK.out.mono ?_
        rintro e w6 ⟨rfl, hgo⟩
        have HGO := Lib.hid hgo
        clear hgo
        go_wp2_with fail
        go_ret
        have hr := HR5.out
        rw [if_neg (fun hn => hn (HX.out.trans HX0.out))] at hr
        obtain ⟨F6, v6, h6, ht6, hF6⟩ := HGO.out
        rw [hr]
        exact ⟨rfl, F6, ⟨gl, FL5, v6, h6, takeP_good HG.out, by have := HNR.out; show sl + (r.size + 16) ≤ _; omega⟩, HT5.out.trans ht6 HF5.out, fun j hj => by
          rcases hF6 j hj with h | h
          · exact HF5.out j h
          · exact .inr (Nat.le_trans HT5.out.size h)⟩
      · have j1 : (x != 0) = true := by simp [h0]
        have HX0 := Lib.hid h0
        have HFA := Lib.hid (kfail_is hK x wq H5.out)
        clear h0
        go_wp2_with fail
        refine HFA.out.mono ?_
        rintro e w6 ⟨rfl, h6, ht6⟩
        have H6 := Lib.hid h6
        have HT6 := Lib.hid ht6
        clear h6 ht6
        go_wp2_with fail
        go_ret
        have hr := HR5.out
        rw [if_pos (by rw [HX.out]; exact HX0.out)] at hr
        rw [hr]
        exact ⟨by rw [← HX.out]; rfl, F5, ⟨gl, FL5, vP, H6.out, HG.out, by show sl ≤ _; omega⟩, HT5.out.trans HT6.out HF5.out, HF5.out⟩
    · have j2 : (y != 0) = true := by simp [hy0]
      have h2 := H2.out
      rw [if_pos (by rw [HY.out]; exact hy0)] at h2
      have hw := HW.out
      rw [if_pos (by rw [HY.out]; exact hy0)] at hw
      have H3 := Lib.hid h2
      have HW3 := Lib.hid hw
      have HFA := Lib.hid (kfail_is hK y w2 H3.out)
      clear h2 hw hy0 H2
      go_wp2_with fail
      refine HFA.out.mono ?_
      rintro e w6 ⟨rfl, h6, ht6⟩
      have H6 := Lib.hid h6
      have HT6 := Lib.hid ht6
      clear h6 ht6
      go_wp2_with fail
      go_ret
      rw [HW3.out]
      exact ⟨by rw [← HY.out]; rfl, F2, ⟨gl, FL2, vP, H6.out, HG.out, hz⟩, HT2.out.trans HT6.out HF2.out, HF2.out⟩
  · have i1 : ¬ ((524288 : Int) < (zn : Int) + (nr : Int) + 16) := by omega
    have hw := HWR.out
    rw [if_neg hbig] at hw
    have HW3 := Lib.hid hw
    have HT2 : Hid (Touch F w w) := Touch.refl F w
    have HF2 : Hid (∀ j, F j → F j ∨ w.heap.size ≤ j) := fun j hj => .inl hj
    have HC3 : Hid ((K.dsk S).calls ≤ 900000) := by show _ ≤ _; omega
    clear hw HWR hnr
    go_enter Try.func33, Try.ntmps33
    go_upto_region 5 with fail
    clear c1
    have k0 := HH.out.c0
    have HAP := Lib.hid (hK.app_ r HH.out.lg (by omega) HC3.out)
    obtain ⟨Q, hQ⟩ : ∃ Q, K.app S r = Q := ⟨_, rfl⟩
    have hr2 := HW3.out
    rw [kApp, hQ] at hr2
    rw [hQ] at HAP
    have HR5 := Lib.hid hr2
    clear hr2 hQ
    go_wp2_with fail
    refine HAP.out.mono ?_
    rintro e wq ⟨rfl, hto⟩
    obtain ⟨F5, FL5, h5, ht5, hF5⟩ := HH.out.log hK (Below.refl _ _) hto
    have H5 := Lib.hid h5
    have HT5 := Lib.hid (HT2.out.trans ht5 HF2.out)
    have HF5 : Hid (∀ j, F5 j → F j ∨ w.heap.size ≤ j) := fun j hj => by
      rcases hF5 j hj with h | h
      · exact HF2.out j h
      · exact .inr (Nat.le_trans HT2.out.size h)
    obtain ⟨x, hx⟩ : ∃ x, Q.2 = x := ⟨_, rfl⟩
    rw [hx]
    have HX := Lib.hid hx
    clear h5 ht5 hF5 hto hx k0
    by_cases h0 : x = 0
    · have j1 : (x != 0) = false := by simp [h0]
      have HX0 := Lib.hid h0
      have HTK := Lib.hid (ktake_is hK r zn wq H5.out HG.out hr8 (by omega))
      clear h0
      go_wp2_with fail
      refine HTK.out.mono ?_
      rintro e w6 ⟨rfl, hgo⟩
      have HGO := Lib.hid hgo
      clear hgo
      go_wp2_with fail
      go_ret
      have hr := HR5.out
      rw [if_neg (fun hn => hn (HX.out.trans HX0.out))] at hr
      obtain ⟨F6, v6, h6, ht6, hF6⟩ := HGO.out
      rw [hr]
      exact ⟨rfl, F6, ⟨gl, FL5, v6, h6, takeP_good HG.out, by have := HNR.out; show zn + (r.size + 16) ≤ _; omega⟩, HT5.out.trans ht6 HF5.out, fun j hj => by
        rcases hF6 j hj with h | h
        · exact HF5.out j h
        · exact .inr (Nat.le_trans HT5.out.size h)⟩
    · have j1 : (x != 0) = true := by simp [h0]
      have HX0 := Lib.hid h0
      have HFA := Lib.hid (kfail_is hK x wq H5.out)
      clear h0
      go_wp2_with fail
      refine HFA.out.mono ?_
      rintro e w6 ⟨rfl, h6, ht6⟩
      have H6 := Lib.hid h6
      have HT6 := Lib.hid ht6
      clear h6 ht6
      go_wp2_with fail
      go_ret
      have hr := HR5.out
      rw [if_pos (by rw [HX.out]; exact HX0.out)] at hr
      rw [hr]
      exact ⟨by rw [← HX.out]; rfl, F5, ⟨gl, FL5, vP, H6.out, HG.out, by show zn ≤ _; omega⟩, HT5.out.trans HT6.out HF5.out, HF5.out⟩
end

end Go.Proofs.Ytaccmjgnggepjaa
/-
  The landed package keep: Put, Drop, Sync.
-/
namespace Go.Proofs.Ytaccmjgnggepjaa
open Go.RowKit

section
variable {K : LogK} {gk gd : Nat} {F : Nat → Prop} {s : KS K} {w w1 w2 : World}
theorem IsKeep.below (hK : LogC K) (h : IsKeep K w gk gd F s) (hb : Below w.heap.size w w1) : IsKeep K w1 gk gd F s := by
  obtain ⟨gl, FL, vP, h1, h2⟩ := h
  exact ⟨gl, FL, vP, h1.below hK hb, h2⟩
theorem IsKeep.lt (h : IsKeep K w gk gd F s) : ∀ k, F k → k < w.heap.size := by
  obtain ⟨gl, FL, vP, h1, h2⟩ := h
  exact h1.lt
theorem KeepTo.from (h : KeepTo K gk gd F s w1 w2) (ht : Touch F w w1) : KeepTo K gk gd F s w w2 := by
  obtain ⟨F', h1, h2, h3⟩ := h
  refine ⟨F', h1, ht.trans h2 fun j hj => .inl hj, fun j hj => ?_⟩
  rcases h3 j hj with h | h
  · exact .inl h
  · exact .inr (Nat.le_trans ht.size h)
theorem KeepTo.stay (h : IsKeep K w gk gd F s) (ht : Touch F w w) : KeepTo K gk gd F s w w := ⟨F, h, ht, fun _ hj => .inl hj⟩
theorem ks_eta (s : KS K) (h : s.dead = false) : s = ⟨s.S, false, s.z, s.ps⟩ := by
  cases s
  simp only at h
  subst h
  rfl

set_option maxRecDepth 100000 in
set_option maxHeartbeats 2000000 in
theorem kput_is (hK : LogC K) (k v : ByteArray) (h : IsKeep K w gk gd F s) (hv : v.size ≤ 140737488351232) (hc : (K.dsk s.S).calls ≤ 800000) :
    Calls Try.prog 18 #[.pointer (some ⟨gk, 0, none⟩), .string k, .string v] w fun e w' => e = .returned (.int .i64 (kPut s k v).2) ∧ KeepTo K gk gd F (kPut s k v).1 w w' := by
  obtain ⟨R, hR⟩ : ∃ R, kPut s k v = R := ⟨_, rfl⟩
  rw [hR]
  rw [kPut] at hR
  have HI := Lib.hid h
  obtain ⟨gl, FL, vP, h1, hg, hz⟩ := h
  have c0 := h1.c0
  cases hd : s.dead with
  | true =>
    rw [if_pos hd] at hR
    have c0' : w.cell? ⟨gk, 0, none⟩ = some (.pointer none) := by rw [hd] at c0; exact c0
    have HR := Lib.hid hR
    clear c0 h1 hd hR
    go_enter Try.func18, Try.ntmps18
    go_wp2_with fail
    go_ret
    rw [← HR.out]
    exact ⟨rfl, KeepTo.stay HI.out (Touch.refl _ _)⟩
  | false =>
    rw [hd, if_neg (by decide)] at hR
    have c0' : w.cell? ⟨gk, 0, none⟩ = some (.pointer (some ⟨gl, 0, none⟩)) := by rw [hd] at c0; exact c0
    have h2 : KeepAt K w gk gl gd F FL s.S (.pointer (some ⟨gl, 0, none⟩)) vP (s.z : Nat) (sizeP s.ps : Nat) s.ps := by rw [hd] at h1; exact h1
    have HCK := Lib.hid (check_is hK k v w h2 hg hv)
    have HB : Hid (∀ w', Below w.heap.size w w' → KeepAt K w' gk gl gd F FL s.S (.pointer (some ⟨gl, 0, none⟩)) vP (s.z : Nat) (sizeP s.ps : Nat) s.ps) := fun w' hb => h2.below hK hb
    obtain ⟨ck, hck⟩ : ∃ ck, checkP s.ps k v = ck := ⟨_, rfl⟩
    rw [hck] at hR HCK
    by_cases h0 : ck = 0
    · rw [if_neg (fun hn => hn h0)] at hR
      have hok := (checkP_ok (hck.trans h0)).1
      have HSET : Hid (∀ wX, Calls Try.prog 34 #[.string k, .string v] wX fun e w' => e = .returned (.string (setR (k, v))) ∧ Below wX.heap.size wX w') := fun wX => setting_is (k, v) wX hok
      have hr8 : (setR (k, v)).size ≤ 4096 := by rw [sizeR]; have := hok.2.2; simp only at this ⊢; omega
      obtain ⟨r, hr⟩ : ∃ r, setR (k, v) = r := ⟨_, rfl⟩
      rw [hr] at HSET hr8 hR
      have HWR : Hid (∀ w', Below w.heap.size w w' → Calls Try.prog 33 #[.pointer (some ⟨gk, 0, none⟩), .string r] w' fun e w2 => e = .returned (.int .i64 R.2) ∧ KeepTo K gk gd F R.1 w' w2) := fun w' hb => by
        rw [← hR]
        have := kwrite_is hK s.z r (HB.out w' hb) hg hz hr8 hc
        rw [← ks_eta s hd] at this
        exact this
      have k0 : (ck != 0) = false := by simp [h0]
      clear c0 h1 h2 hck hok hr hR h0 hd
      go_enter Try.func18, Try.ntmps18
      go_wp2_with fail
      refine HCK.out.mono ?_
      rintro e w2 ⟨rfl, hb2⟩
      go_wp2_with fail
      refine (HSET.out _).mono ?_
      rintro e w3 ⟨rfl, hb3⟩
      have hb13 := hb2.trans (hb3.mono hb2.size)
      go_wp2_with fail
      refine (HWR.out _ hb13).mono ?_
      rintro e w4 ⟨rfl, hto⟩
      go_wp2_with fail
      go_ret
      exact ⟨rfl, hto.from (Touch.of hb13)⟩
    · rw [if_pos h0] at hR
      have k0 : (ck != 0) = true := by simp [h0]
      have HR := Lib.hid hR
      clear c0 h1 h2 hck h0 hd hR
      go_enter Try.func18, Try.ntmps18
      go_wp2_with fail
      refine HCK.out.mono ?_
      rintro e w2 ⟨rfl, hb2⟩
      go_wp2_with fail
      go_ret
      rw [← HR.out]
      exact ⟨rfl, F, HI.out.below hK hb2, Touch.of hb2, fun _ hj => .inl hj⟩

set_option maxRecDepth 100000 in
set_option maxHeartbeats 2000000 in
theorem kdrop_is (hK : LogC K) (k : ByteArray) (h : IsKeep K w gk gd F s) (hc : (K.dsk s.S).calls ≤ 800000) :
    Calls Try.prog 21 #[.pointer (some ⟨gk, 0, none⟩), .string k] w fun e w' => e = .returned (.int .i64 (kDrop s k).2) ∧ KeepTo K gk gd F (kDrop s k).1 w w' := by
  obtain ⟨R, hR⟩ : ∃ R, kDrop s k = R := ⟨_, rfl⟩
  rw [hR]
  rw [kDrop] at hR
  have HI := Lib.hid h
  obtain ⟨gl, FL, vP, h1, hg, hz⟩ := h
  have c0 := h1.c0
  cases hd : s.dead with
  | true =>
    rw [if_pos hd] at hR
    have c0' : w.cell? ⟨gk, 0, none⟩ = some (.pointer none) := by rw [hd] at c0; exact c0
    have HR := Lib.hid hR
    clear c0 h1 hd hR
    go_enter Try.func21, Try.ntmps21
    go_wp2_with fail
    go_ret
    rw [← HR.out]
    exact ⟨rfl, KeepTo.stay HI.out (Touch.refl _ _)⟩
  | false =>
    rw [hd, if_neg (by decide)] at hR
    have c0' : w.cell? ⟨gk, 0, none⟩ = some (.pointer (some ⟨gl, 0, none⟩)) := by rw [hd] at c0; exact c0
    have h2 : KeepAt K w gk gl gd F FL s.S (.pointer (some ⟨gl, 0, none⟩)) vP (s.z : Nat) (sizeP s.ps : Nat) s.ps := by rw [hd] at h1; exact h1
    have HIK := Lib.hid (isKey_is k w)
    cases hok : okK k with
    | false =>
      rw [hok] at HIK
      have hR1 : R = (s, 1) := by
        rw [← hR, if_pos]
        rintro ⟨q1, q2⟩
        rw [okK, decide_eq_true q1, decide_eq_true q2] at hok
        cases hok
      have HR := Lib.hid hR1
      clear c0 h1 h2 hd hR hR1 hok
      go_enter Try.func21, Try.ntmps21
      go_wp2_with (go_at_call 37; refine HIK.out.mono ?_; rintro e w' ⟨rfl, rfl⟩)
      go_ret
      rw [HR.out]
      exact ⟨rfl, KeepTo.stay HI.out (Touch.refl _ _)⟩
    | true =>
      rw [hok] at HIK
      have q12 : 1 ≤ k.size ∧ k.size ≤ 32 := by
        rw [okK, Bool.and_eq_true, decide_eq_true_eq, decide_eq_true_eq] at hok
        exact hok
      rw [if_neg (fun hn => hn q12)] at hR
      have HFD := Lib.hid (kfind_is k w h2 hg.1 hg.len)
      cases hh : hasP s.ps k with
      | false =>
        rw [hh] at HFD
        rw [if_pos hh] at hR
        have HR := Lib.hid hR
        clear c0 h1 h2 hd hR hok hh q12
        go_enter Try.func21, Try.ntmps21
        go_wp2_with (go_at_call 37; refine HIK.out.mono ?_; rintro e w' ⟨rfl, rfl⟩)
        refine HFD.out.mono ?_
        rintro e w2 ⟨rfl, hb2⟩
        go_wp2_with fail
        go_ret
        rw [← HR.out]
        exact ⟨rfl, F, HI.out.below hK hb2, Touch.of hb2, fun _ hj => .inl hj⟩
      | true =>
        rw [hh] at HFD
        rw [hh, if_neg (by decide)] at hR
        have hr8 : (delR k).size ≤ 4096 := by rw [sizeD]; omega
        have hcat : (⟨#[45]⟩ : ByteArray) ++ k = delR k := rfl
        obtain ⟨r, hr⟩ : ∃ r, delR k = r := ⟨_, rfl⟩
        rw [hr] at hr8 hR hcat
        have HWR : Hid (∀ w', Below w.heap.size w w' → Calls Try.prog 33 #[.pointer (some ⟨gk, 0, none⟩), .string r] w' fun e w2 => e = .returned (.int .i64 R.2) ∧ KeepTo K gk gd F R.1 w' w2) := fun w' hb => by
          rw [← hR]
          have := kwrite_is hK s.z r (h2.below hK hb) hg hz hr8 hc
          rw [← ks_eta s hd] at this
          exact this
        have s1 : (⟨#[45]⟩ : ByteArray).size = 1 := rfl
        obtain ⟨n, hn⟩ : ∃ n, k.size = n := ⟨_, rfl⟩
        have hn32 : n ≤ 32 := by rw [← hn]; exact q12.2
        clear c0 h1 h2 hd hR hok hh q12 hr
        go_enter Try.func21, Try.ntmps21
        go_wp2_with (go_at_call 37; refine HIK.out.mono ?_; rintro e w' ⟨rfl, rfl⟩)
        refine HFD.out.mono ?_
        rintro e w2 ⟨rfl, hb2⟩
        go_wp2_with fail
        refine (HWR.out _ hb2).mono ?_
        rintro e w4 ⟨rfl, hto⟩
        go_wp2_with fail
        go_ret
        exact ⟨rfl, hto.from (Touch.of hb2)⟩

set_option maxHeartbeats 2000000 in
theorem ksync_is (hK : LogC K) (h : IsKeep K w gk gd F s) (hc : (K.dsk s.S).calls ≤ 800000) :
    Calls Try.prog 19 #[.pointer (some ⟨gk, 0, none⟩)] w fun e w' => e = .returned (.int .i64 (kSync s).2) ∧ KeepTo K gk gd F (kSync s).1 w w' := by
  obtain ⟨R, hR⟩ : ∃ R, kSync s = R := ⟨_, rfl⟩
  rw [hR]
  rw [kSync] at hR
  have HI := Lib.hid h
  obtain ⟨gl, FL, vP, h1, hg, hz⟩ := h
  have c0 := h1.c0
  cases hd : s.dead with
  | true =>
    rw [if_pos hd] at hR
    have c0' : w.cell? ⟨gk, 0, none⟩ = some (.pointer none) := by rw [hd] at c0; exact c0
    have HR := Lib.hid hR
    clear c0 h1 hd hR
    go_enter Try.func19, Try.ntmps19
    go_wp2_with fail
    go_ret
    rw [← HR.out]
    exact ⟨rfl, KeepTo.stay HI.out (Touch.refl _ _)⟩
  | false =>
    rw [hd, if_neg (by decide)] at hR
    have c0' : w.cell? ⟨gk, 0, none⟩ = some (.pointer (some ⟨gl, 0, none⟩)) := by rw [hd] at c0; exact c0
    have h2 : KeepAt K w gk gl gd F FL s.S (.pointer (some ⟨gl, 0, none⟩)) vP (s.z : Nat) (sizeP s.ps : Nat) s.ps := by rw [hd] at h1; exact h1
    have HSY := Lib.hid (hK.sync_ h2.lg (by omega))
    have H2 := Lib.hid h2
    obtain ⟨E, hE⟩ : ∃ E, K.sync s.S = E := ⟨_, rfl⟩
    rw [hE] at hR HSY
    have HR := Lib.hid hR
    clear c0 h1 h2 hd hR hE
    go_enter Try.func19, Try.ntmps19
    go_wp2_with fail
    refine HSY.out.mono ?_
    rintro e w2 ⟨rfl, hto⟩
    obtain ⟨F5, FL5, h5, ht5, hF5⟩ := H2.out.log hK (Below.refl _ _) hto
    have H5 := Lib.hid h5
    have HT5 := Lib.hid ht5
    have HF5 := Lib.hid hF5
    obtain ⟨x, hx⟩ : ∃ x, E.2 = x := ⟨_, rfl⟩
    rw [hx]
    have HX := Lib.hid hx
    clear h5 ht5 hF5 hto hx
    by_cases h0 : x = 0
    · have j1 : (x != 0) = false := by simp [h0]
      have HX0 := Lib.hid h0
      clear h0
      go_wp2_with fail
      go_ret
      rw [← HR.out, if_neg (fun hn => hn (HX.out.trans HX0.out))]
      exact ⟨rfl, F5, ⟨gl, FL5, vP, H5.out, hg, hz⟩, HT5.out, HF5.out⟩
    · have j1 : (x != 0) = true := by simp [h0]
      have HX0 := Lib.hid h0
      have HFA := Lib.hid (kfail_is hK x w2 H5.out)
      clear h0
      go_wp2_with fail
      refine HFA.out.mono ?_
      rintro e w6 ⟨rfl, h6, ht6⟩
      have H6 := Lib.hid h6
      have HT6 := Lib.hid ht6
      clear h6 ht6
      go_wp2_with fail
      go_ret
      rw [← HR.out, if_pos (by rw [HX.out]; exact HX0.out)]
      exact ⟨by rw [← HX.out]; rfl, F5, ⟨gl, FL5, vP, H6.out, hg, hz⟩, HT5.out.trans HT6.out HF5.out, HF5.out⟩
end

end Go.Proofs.Ytaccmjgnggepjaa
/-
  The landed package keep: Open.
-/
namespace Go.Proofs.Ytaccmjgnggepjaa
open Go.RowKit

/-- of the log besides -/
structure LogE (K : LogK) : Prop where
  bad : ∀ D, (K.openL D).1 = none → (K.openL D).2.1 ≠ 0
  good : ∀ {D S e D'}, K.openL D = (some S, e, D') → e = 0
  costA : ∀ S s, (K.dsk (K.app S s).1).calls ≤ (K.dsk S).calls + 4
  costS : ∀ S, (K.dsk (K.sync S).1).calls ≤ (K.dsk S).calls + 4
  costR : ∀ S l, (K.dsk (K.reset S l).1).calls ≤ (K.dsk S).calls + 4
  costO : ∀ D, (K.openL D).2.2.calls ≤ D.calls + 4

/-- what Open hands back: the store with its disk, or the disk alone -/
def KOpened (K : LogK) (gd : Nat) (F : Nat → Prop) (D : PD) (w : World) (e : Ending) (w' : World) : Prop :=
  ∃ F' : Nat → Prop, Touch F w w' ∧ (∀ k, F' k → F k ∨ w.heap.size ≤ k) ∧
    ((∃ s gk, (kOpen K D).1 = some s ∧ e = .returned (.tuple #[.pointer (some ⟨gk, 0, none⟩), .int .i64 0]) ∧ IsKeep K w' gk gd F' s ∧ K.dsk s.S = (kOpen K D).2.2) ∨
     ((kOpen K D).1 = none ∧ e = .returned (.tuple #[.pointer none, .int .i64 (kOpen K D).2.1]) ∧ IsDisk w' gd F' (kOpen K D).2.2))

section
variable {K : LogK} {gd : Nat} {F : Nat → Prop} {D : PD} {w : World}
theorem few_lenK {l : List ByteArray} (h : sizeL l ≤ 524288) : l.length ≤ 32768 := by have := sizeL_len l; omega
theorem size_up {l : List ByteArray} {k : Nat} {x : ByteArray} (h : l[k]? = some x) : sizeL (l.take (k + 1)) = sizeL (l.take k) + (x.size + 16) ∧ playP [] (l.take (k + 1)) = takeP (playP [] (l.take k)) x := by
  rw [List.take_add_one, h]
  simp only [Option.toList_some]
  refine ⟨?_, ?_⟩
  · rw [sizeL_append]; simp [sizeL]
  · rw [playP_append]; rfl
theorem size_take (l : List ByteArray) (k : Nat) : sizeL (l.take k) ≤ sizeL l := by
  have : sizeL l = sizeL (l.take k) + sizeL (l.drop k) := by rw [← sizeL_append, List.take_append_drop]
  omega

set_option maxRecDepth 100000 in
set_option maxHeartbeats 4000000 in
theorem kopen_is (hK : LogC K) (hE : LogE K) (h : IsDisk w gd F D) (hc : D.calls ≤ 800000) :
    Calls Try.prog 8 #[.pointer (some ⟨gd, 0, none⟩)] w (KOpened K gd F D w) := by
  have HOP := Lib.hid (hK.open_ h (by omega))
  obtain ⟨R, hR⟩ : ∃ R, kOpen K D = R := ⟨_, rfl⟩
  have hr := hR
  rw [kOpen] at hr
  have hgood := fun S e D' => hE.good (D := D) (S := S) (e := e) (D' := D')
  have hbad := hE.bad D
  have HKO : Hid (∀ e w', (∃ F' : Nat → Prop, Touch F w w' ∧ (∀ k, F' k → F k ∨ w.heap.size ≤ k) ∧ ((∃ s gk, R.1 = some s ∧ e = .returned (.tuple #[.pointer (some ⟨gk, 0, none⟩), .int .i64 0]) ∧ IsKeep K w' gk gd F' s ∧ K.dsk s.S = R.2.2) ∨ (R.1 = none ∧ e = .returned (.tuple #[.pointer none, .int .i64 R.2.1]) ∧ IsDisk w' gd F' R.2.2))) → KOpened K gd F D w e w') := fun e w' h => by
    unfold KOpened
    rw [hR]
    exact h
  obtain ⟨O, hO⟩ : ∃ O, K.openL D = O := ⟨_, rfl⟩
  have HOO := Lib.hid hO
  rw [hO] at hr hgood hbad
  have HR := Lib.hid hr
  have HGOOD := Lib.hid hgood
  have HBAD := Lib.hid hbad
  clear h hR hr hgood hbad hO
  go_enter Try.func8, Try.ntmps8
  go_wp2_with fail
  refine HOP.out.mono ?_
  rintro e w2 ⟨F2, ht2, hF2, hor⟩
  have HT2 := Lib.hid ht2
  have HF2 := Lib.hid hF2
  clear ht2 hF2
  obtain ⟨o1, o2, o3⟩ := O
  rcases hor with ⟨S, gl, e1, e2, hlg, hds⟩ | ⟨e1, e2, hdk⟩
  · rw [HOO.out] at e1 e2 hds
    simp only at e1 e2 hds
    subst e1
    have h0 := HGOOD.out S o2 o3 rfl
    subst h0
    subst e2
    have hr := HR.out
    simp only at hr
    rw [if_neg (fun hn => hn rfl)] at hr
    have HR2 := Lib.hid hr
    have HFEW := Lib.hid (hK.few hlg)
    obtain ⟨L, hL⟩ : ∃ L, K.recs S = L := ⟨_, rfl⟩
    have HL := Lib.hid hL
    rw [hL] at HFEW
    have HDS := Lib.hid hds
    have hlt2 := hK.lt hlg
    obtain ⟨w3, hw3⟩ : ∃ w3, w3 = w2.alloc (.cells #[.pointer (some ⟨gl, 0, none⟩), .int .i64 0, .slice none 0 0, .int .i64 0] 61) := ⟨_, rfl⟩
    have hb3 : Below w2.heap.size w2 w3 := by rw [hw3]; exact (Below.refl _ _).alloc (Nat.le_refl _) _
    have hblk : w3.heap[w2.heap.size]? = some (.cells #[.pointer (some ⟨gl, 0, none⟩), .int .i64 0, .slice none 0 0, .int .i64 0] 61 (0, 0)) := by rw [hw3]; exact heap_alloc_new w2 _
    have hz3 : w3.heap.size = w2.heap.size + 1 := by rw [hw3]; simp
    have h3 : KeepAt K w3 w2.heap.size gl gd (fun k => F2 k ∨ k = w2.heap.size) F2 S (.pointer (some ⟨gl, 0, none⟩)) (.slice none 0 0) (0 : Nat) (sizeP [] : Nat) [] :=
      ⟨hblk, World.ownsRow_nil _ _ _ _, hK.kept hlg hb3.size fun k hk => hb3.block k (hlt2 k hk), fun k hk => .inl hk, fun k hk => by
        rcases hk with hk | hk
        · have := hlt2 k hk; omega
        · omega, .inr rfl, fun k hk => by simp [Value.ownBlock] at hk, fun hf => by have := hlt2 _ hf; omega, fun k hk => by simp [Value.ownBlock] at hk⟩
    obtain ⟨gk, hgk⟩ : ∃ gk, w2.heap.size = gk := ⟨_, rfl⟩
    have HT3 : Hid (Touch F w w3) := HT2.out.then hb3
    have HF3 : Hid (∀ k, (F2 k ∨ k = gk) → F k ∨ w.heap.size ≤ k) := fun k hk => by
      rcases hk with hk | hk
      · exact HF2.out k hk
      · exact .inr (by rw [hk, ← hgk]; exact HT2.out.size)
    have HALL := Lib.hid (hK.all_ h3.lg)
    rw [hL] at HALL
    rw [hgk] at h3
    have HGK := Lib.hid hgk
    have H3 := Lib.hid h3
    have HW3 := Lib.hid hw3
    have HDS2 : Hid (K.dsk S = o3) := hds
    clear hr HR hlg hL hlt2 hblk h3 hw3 hb3 hz3 hgk hds HDS HOP HOO
    go_upto_region 4 with fail
    go_upto_region 5 with fail
    rw [HGK.out, ← HW3.out]
    go_wp2_with fail
    refine HALL.out.mono ?_
    rintro e w4 ⟨v4, rfl, ho4, hb4⟩
    obtain ⟨n, hn⟩ : ∃ n, L.length = n := ⟨_, rfl⟩
    have HN := Lib.hid hn
    have hn1 : n ≤ 40000 := by have h1 := few_lenK HFEW.out.1; omega
    have ho4b := own_cast ho4 ((strs_length _).trans hn)
    have HLT3 := Lib.hid H3.out.lt
    obtain ⟨A4, c4, rfl, hnc4, hcm4, hr4, hlo4, _⟩ := own_val ho4b
    have HTX0 : Hid (TxtIn w4 (fun k => F2 k ∨ k = gk) A4 n c4 L) := ⟨hn, hr4, hnc4, hcm4, fun a ha _ hf => absurd (HLT3.out _ hf) (Nat.not_lt.2 (hlo4 a ha))⟩
    have HK4 := Lib.hid (H3.out.below hK hb4)
    have HT4 := Lib.hid (HT3.out.then hb4)
    clear ho4 ho4b hr4 hlo4 hcm4 hnc4 hb4 hn
    go_wp2_with fail
    go_loopw [23] (fun i wr => ∃ (k : Nat) (F5 FL5 : Nat → Prop) (v5 : Value) (zn : Nat), i = .int .i64 k ∧ k ≤ n ∧ zn ≤ 524288 ∧ Hid (sizeL (L.take k) = zn) ∧ Hid (KeepAt K wr gk gl gd F5 FL5 S (.pointer (some ⟨gl, 0, none⟩)) v5 (zn : Nat) (sizeP (playP [] (L.take k)) : Nat) (playP [] (L.take k))) ∧ Hid (TxtIn wr F5 A4 n c4 L) ∧ Hid (Touch F w wr) ∧ Hid (∀ j, F5 j → F j ∨ w.heap.size ≤ j)) (fun i _ => n - (intOf i).toNat)
    case atStart => exact ⟨0, _, _, _, 0, rfl, by omega, by omega, by rw [List.take_zero]; rfl, by rw [List.take_zero]; exact HK4.out, HTX0.out, HT4.out, HF3.out⟩
    case round =>
      obtain ⟨k, F5, FL5, v5, zn, rfl, hk, hzn, HZ, H5, HTX, HT5, HF5⟩ := hrel
      have i0 : (0 : Int) ≤ (k : Int) := by omega
      by_cases hlt : k < n
      · have i1 : (k : Int) < (n : Int) := by omega
        obtain ⟨b, off, rfl, _, hcl⟩ := HTX.out.rd.open_ (by rw [strs_length, HN.out]; omega)
        have hkl : k < L.length := by rw [HN.out]; exact hlt
        obtain ⟨x, hx⟩ : ∃ x, x = L[k] := ⟨_, rfl⟩
        have e0 : wr.cell? ⟨b, off + k, none⟩ = some (.string x) := by rw [hx, hcl k _ (strs_at hkl)]; simp [hkl]
        have hat : L[k]? = some x := by rw [hx]; simp [hkl]
        obtain ⟨u1, u2⟩ := size_up hat
        have hx8 := HFEW.out.2 x (List.mem_of_getElem? hat)
        have hsk : sizeL (L.take (k + 1)) ≤ 524288 := Nat.le_trans (size_take L (k + 1)) HFEW.out.1
        rw [HZ.out] at u1
        have HTK := ktake_is hK x zn wr H5.out (playP_good goodP_nil) hx8 (by omega)
        rw [← u2, ← u1] at HTK
        have HTK2 := Lib.hid HTK
        obtain ⟨zk, hzk⟩ : ∃ zk, sizeL (L.take (k + 1)) = zk := ⟨_, rfl⟩
        rw [hzk] at hsk HTK2
        have HZK := Lib.hid hzk
        clear hcl hx hat u1 u2 HTK hx8 hzk hkl
        go_wp2_with fail
        refine HTK2.out.mono ?_
        rintro e w6 ⟨rfl, F6, v6, h6, ht6, hF6⟩
        have H6 := Lib.hid h6
        have HTX6 := Lib.hid (HTX.out.touch ht6 hF6)
        have HT6 := Lib.hid (HT5.out.trans ht6 HF5.out)
        have HF6 : Hid (∀ j, F6 j → F j ∨ w.heap.size ≤ j) := fun j hj => by
          rcases hF6 j hj with h | h
          · exact HF5.out j h
          · exact .inr (Nat.le_trans HT5.out.size h)
        clear h6 ht6 hF6
        go_wp2_with fail
        go_roundw
        case rel => exact ⟨k + 1, F6, FL5, v6, zk, by go_num, by omega, hsk, HZK.out, H6.out, HTX6.out, HT6.out, HF6.out⟩
        case measure => simp [intOf]; omega
      · have i1 : ¬ ((k : Int) < (n : Int)) := by omega
        have htk : L.take k = L := List.take_of_length_le (by rw [HN.out]; omega)
        have h5 := H5.out
        rw [htk] at h5
        have hz := HZ.out
        rw [htk] at hz
        have HH5 := Lib.hid h5
        have HZ5 := Lib.hid hz
        clear htk h5 hz
        go_wp2_with fail
        go_ret2
        refine HKO.out _ _ ⟨F5, HT5.out, HF5.out, .inl ⟨kFrom S, gk, by rw [← HR2.out], rfl, ?_, ?_⟩⟩
        · refine ⟨gl, FL5, v5, ?_, ?_, ?_⟩
          · show KeepAt K _ gk gl gd F5 FL5 S _ v5 ((sizeL (K.recs S) : Nat) : Int) ((sizeP (playP [] (K.recs S)) : Nat) : Int) (playP [] (K.recs S))
            rw [HL.out, HZ5.out]
            exact HH5.out
          · show GoodP (playP [] (K.recs S))
            exact playP_good goodP_nil
          · show sizeL (K.recs S) ≤ _
            rw [HL.out, HZ5.out]
            exact hzn
        · rw [← HR2.out]
          exact HDS2.out
  · rw [HOO.out] at e1 e2 hdk
    simp only at e1 e2 hdk
    subst e1
    have h0 := HBAD.out rfl
    simp only at h0
    have j1 : (o2 != 0) = true := by simp [h0]
    have hr := HR.out
    simp only at hr
    have HR2 := Lib.hid hr
    have HDK := Lib.hid hdk
    subst e2
    clear hr HR hdk h0 HOP HOO
    go_wp2_with fail
    go_ret2
    exact HKO.out _ _ ⟨F2, HT2.out, HF2.out, .inr ⟨by rw [← HR2.out], by rw [← HR2.out]; rfl, by rw [← HR2.out]; exact HDK.out⟩⟩
end

end Go.Proofs.Ytaccmjgnggepjaa
/-
  What a store over a log does while the power stays on: on plain data.
-/
namespace Go.Proofs.Ytaccmjgnggepjaa
open Go.RowKit

def actK (m : Int) (s : ByteArray) (l : List ByteArray) : ActG := ⟨m, s, none, 0, 0, l, none, 0, 0, []⟩
section
variable {K : LogK} {s : KS K} {S : K.LS}
theorem act_app (hP : LogP K) (hf : hP.Fine S) {r : ByteArray} (hr : r.size ≤ 4096) (hz : sizeL (K.recs S) + r.size + 16 ≤ 524288) : (K.app S r).2 = 0 ∧ K.recs (K.app S r).1 = K.recs S ++ [r] ∧ hP.Fine (K.app S r).1 := by
  have h := hP.act 0 (actK 0 r []) hf
  have e1 : K.act S 0 (actK 0 r []) = K.app S r := by simp [LogK.act, actK]
  have e2 : nextG (K.recs S) 0 (actK 0 r []) = (K.recs S ++ [r], 0) := by
    rw [nextG, if_neg (by omega), if_neg (by omega), if_neg (by show ¬ 4096 < r.size; omega), if_neg (by show ¬ 524288 < _ + r.size + 16; omega)]
    rfl
  rw [e1, e2] at h
  exact h
theorem act_reset (hP : LogP K) (hf : hP.Fine S) {l : List ByteArray} (hs : ∀ x ∈ l, x.size ≤ 4096) (hz : sizeL l ≤ 524288) : (K.reset S l).2 = 0 ∧ K.recs (K.reset S l).1 = l ∧ hP.Fine (K.reset S l).1 := by
  have h := hP.act 4 (actK 4 ByteArray.empty l) hf
  have e1 : K.act S 4 (actK 4 ByteArray.empty l) = K.reset S l := by simp [LogK.act, actK]
  have e2 : nextG (K.recs S) 4 (actK 4 ByteArray.empty l) = (l, 0) := by
    rw [nextG, if_pos rfl, if_neg, if_neg (by show ¬ 524288 < sizeL l; omega)]
    · rfl
    · show ¬ bigS l = true
      rw [bigS, List.any_eq_true]
      rintro ⟨x, h1, h2⟩
      have h3 := hs x h1
      have h4 : 4096 < x.size := by simpa using h2
      omega
  rw [e1, e2] at h
  exact h
theorem act_sync (hP : LogP K) (hf : hP.Fine S) : (K.sync S).2 = 0 ∧ K.recs (K.sync S).1 = K.recs S ∧ hP.Fine (K.sync S).1 ∧ hP.Last (K.sync S).1 := by
  have h := hP.act 5 (actK 5 ByteArray.empty []) hf
  have e1 : K.act S 5 (actK 5 ByteArray.empty []) = K.sync S := by simp [LogK.act]
  have e2 : nextG (K.recs S) 5 (actK 5 ByteArray.empty []) = (K.recs S, 0) := by rw [nextG, if_neg (by omega), if_pos (.inl rfl)]
  rw [e1, e2] at h
  exact ⟨h.1, h.2.1, h.2.2, hP.sync hf⟩

/-- a store whose disk has power -/
structure FineK (hP : LogP K) (s : KS K) : Prop where
  live : s.dead = false
  fine : hP.Fine s.S
  zz : s.z = sizeL (K.recs s.S)
  play : playP [] (K.recs s.S) = s.ps
theorem FineK.good {hP : LogP K} (h : FineK hP s) : GoodP s.ps := by rw [← h.play]; exact playP_good goodP_nil
theorem app_fine {hP : LogP K} (h : FineK hP s) {r : ByteArray} (hr : r.size ≤ 4096) (hz : s.z + r.size + 16 ≤ 524288) : (kApp s r).2 = 0 ∧ (kApp s r).1.ps = takeP s.ps r ∧ FineK hP (kApp s r).1 := by
  obtain ⟨h1, h2, h3⟩ := act_app hP h.fine hr (by rw [← h.zz]; exact hz)
  rw [kApp, if_neg (fun hn => hn h1)]
  refine ⟨rfl, rfl, rfl, h3, ?_, ?_⟩
  · show s.z + (r.size + 16) = sizeL (K.recs (K.app s.S r).1)
    rw [h2, sizeL_append, ← h.zz]
    simp [sizeL]
  · show playP [] (K.recs (K.app s.S r).1) = takeP s.ps r
    rw [h2, playP_append, h.play]
    rfl
theorem write_fine {hP : LogP K} (h : FineK hP s) {r : ByteArray} (hr : r.size ≤ 4096) : (kWrite s r).2 = 0 ∧ (kWrite s r).1.ps = takeP s.ps r ∧ FineK hP (kWrite s r).1 := by
  rw [kWrite]
  split
  · have hg := h.good
    have hz := Nat.le_trans (setsP_size s.ps) hg.2.1
    obtain ⟨h1, h2, h3⟩ := act_reset hP h.fine (sets_few hg.2.2) (by omega)
    rw [if_neg (fun hn => hn h1)]
    have hf : FineK hP (⟨(K.reset s.S (setsP s.ps)).1, false, sizeL (setsP s.ps), s.ps⟩ : KS K) := ⟨rfl, h3, by rw [h2], by rw [h2]; exact play_back hg⟩
    exact app_fine hf hr (by show sizeL (setsP s.ps) + _ + _ ≤ _; omega)
  · exact app_fine h hr (by omega)
theorem put_fine {hP : LogP K} (h : FineK hP s) (k v : ByteArray) : (kPut s k v).2 = checkP s.ps k v ∧ (kPut s k v).1.ps = (if checkP s.ps k v = 0 then setP s.ps k v else s.ps) ∧ FineK hP (kPut s k v).1 := by
  rw [kPut, h.live, if_neg (by decide)]
  by_cases hc : checkP s.ps k v = 0
  · rw [if_neg (fun hn => hn hc), if_pos hc]
    have hok := (checkP_ok hc).1
    obtain ⟨h1, h2, h3⟩ := write_fine h (r := setR (k, v)) (by rw [sizeR]; have := hok.2.2; simp only at this ⊢; omega)
    rw [take_set hok, if_pos hc] at h2
    exact ⟨h1.trans hc.symm, h2, h3⟩
  · rw [if_pos hc, if_neg hc]
    exact ⟨rfl, rfl, h⟩
def dropE (l : List PP) (k : ByteArray) : Int := if ¬ (1 ≤ k.size ∧ k.size ≤ 32) then 1 else if hasP l k = false then 3 else 0
theorem drop_fine {hP : LogP K} (h : FineK hP s) (k : ByteArray) : (kDrop s k).2 = dropE s.ps k ∧ (kDrop s k).1.ps = (if dropE s.ps k = 0 then delP s.ps k else s.ps) ∧ FineK hP (kDrop s k).1 := by
  by_cases hk : 1 ≤ k.size ∧ k.size ≤ 32
  · have hq : ¬ ¬ (1 ≤ k.size ∧ k.size ≤ 32) := fun hn => hn hk
    by_cases hh : hasP s.ps k = false
    · have hd : dropE s.ps k = 3 := by rw [dropE, if_neg hq, if_pos hh]
      rw [hd, kDrop, h.live, if_neg (by decide), if_neg hq, if_pos hh, if_neg (by decide)]
      exact ⟨rfl, rfl, h⟩
    · have hd : dropE s.ps k = 0 := by rw [dropE, if_neg hq, if_neg hh]
      rw [hd, kDrop, h.live, if_neg (by decide), if_neg hq, if_neg hh, if_pos rfl]
      obtain ⟨h1, h2, h3⟩ := write_fine h (r := delR k) (by rw [sizeD]; omega)
      rw [take_del] at h2
      exact ⟨h1, h2, h3⟩
  · have hd : dropE s.ps k = 1 := by rw [dropE, if_pos hk]
    rw [hd, kDrop, h.live, if_neg (by decide), if_pos hk, if_neg (by decide)]
    exact ⟨rfl, rfl, h⟩
theorem sync_fine {hP : LogP K} (h : FineK hP s) : (kSync s).2 = 0 ∧ (kSync s).1.ps = s.ps ∧ FineK hP (kSync s).1 ∧ hP.Last (kSync s).1.S := by
  obtain ⟨h1, h2, h3, h4⟩ := act_sync hP h.fine
  rw [kSync, h.live, if_neg (by decide), if_neg (fun hn => hn h1)]
  exact ⟨rfl, rfl, ⟨rfl, h3, by show s.z = sizeL (K.recs (K.sync s.S).1); rw [h2]; exact h.zz, by show playP [] (K.recs (K.sync s.S).1) = s.ps; rw [h2]; exact h.play⟩, h4⟩
theorem open_fine (hP : LogP K) : ∃ s, kOpen K (dNew []) = (some s, 0, K.dsk s.S) ∧ FineK hP s ∧ s.ps = [] := by
  obtain ⟨S, h1, h2, h3⟩ := hP.start
  refine ⟨kFrom S, ?_, ⟨rfl, h2, rfl, rfl⟩, ?_⟩
  · rw [kOpen, h1]
    rfl
  · show playP [] (K.recs S) = []
    rw [h3]
    rfl
theorem reopen_fine {hP : LogP K} (h : FineK hP s) (hl : hP.Last s.S) (ps : List Int) : ∃ s', kOpen K (dNew (dCrash (K.dsk s.S) ps)) = (some s', 0, K.dsk s'.S) ∧ FineK hP s' ∧ s'.ps = s.ps := by
  obtain ⟨S, h1, h2, h3⟩ := hP.reopen hl ps
  refine ⟨kFrom S, ?_, ⟨rfl, h2, rfl, rfl⟩, ?_⟩
  · rw [kOpen, h1]
    rfl
  · show playP [] (K.recs S) = s.ps
    rw [h3, h.play]

/-! ### the costs -/
theorem app_cost (hE : LogE K) (r : ByteArray) : (K.dsk (kApp s r).1.S).calls ≤ (K.dsk s.S).calls + 4 := by
  have := hE.costA s.S r
  rw [kApp]
  split <;> exact this
theorem write_cost (hE : LogE K) (r : ByteArray) : (K.dsk (kWrite s r).1.S).calls ≤ (K.dsk s.S).calls + 8 := by
  have h1 := hE.costR s.S (setsP s.ps)
  rw [kWrite]
  split
  · split
    · exact Nat.le_trans h1 (by omega)
    · exact Nat.le_trans (app_cost hE r) (by show (K.dsk (K.reset s.S (setsP s.ps)).1).calls + 4 ≤ _; omega)
  · exact Nat.le_trans (app_cost hE r) (by omega)
theorem put_cost (hE : LogE K) (k v : ByteArray) : (K.dsk (kPut s k v).1.S).calls ≤ (K.dsk s.S).calls + 8 := by
  rw [kPut]
  split
  · show (K.dsk s.S).calls ≤ _; omega
  · split
    · show (K.dsk s.S).calls ≤ _; omega
    · exact write_cost hE _
theorem drop_cost (hE : LogE K) (k : ByteArray) : (K.dsk (kDrop s k).1.S).calls ≤ (K.dsk s.S).calls + 8 := by
  rw [kDrop]
  split
  · show (K.dsk s.S).calls ≤ _; omega
  · split
    · show (K.dsk s.S).calls ≤ _; omega
    · split
      · show (K.dsk s.S).calls ≤ _; omega
      · exact write_cost hE _
theorem sync_cost (hE : LogE K) : (K.dsk (kSync s).1.S).calls ≤ (K.dsk s.S).calls + 8 := by
  have h1 := hE.costS s.S
  rw [kSync]
  split
  · show (K.dsk s.S).calls ≤ _; omega
  · split
    · exact Nat.le_trans h1 (by omega)
    · exact Nat.le_trans h1 (by omega)
theorem open_cost (hE : LogE K) (D : PD) : (kOpen K D).2.2.calls ≤ D.calls + 4 := by
  have h1 := hE.costO D
  rw [kOpen]
  split
  · rename_i h
    rw [h] at h1
    split <;> exact h1
  · rename_i h
    rw [h] at h1
    exact h1
end

end Go.Proofs.Ytaccmjgnggepjaa
/-
  What the statements on stores ask of package keep, in plain words: a store whose disk has power.
-/
namespace Go.Proofs.Ytaccmjgnggepjaa
open Go.RowKit

theorem num11_any (n : Int) (w : World) : Calls Try.prog 9 #[.int .i64 n] w fun e w' => e = .returned (.int .i64 n) ∧ w = w' := by
  go_enter Try.func9, Try.ntmps9
  go_wp2
  go_ret
  exact ⟨rfl, rfl⟩

theorem set_at (l : List PP) (k v : ByteArray) : (setP l k v)[posP l k]? = some (k, v) := by
  have h1 := posP_le l k
  have h2 : (l.take (posP l k)).length = posP l k := by rw [List.length_take]; omega
  rw [setP, List.getElem?_append_right (by omega), h2, Nat.sub_self]
  rfl
theorem get_at {l : List PP} (hr : RiseN (keysP l)) {j : Nat} {k v : ByteArray} (h : l[j]? = some (k, v)) : getP l k = (v, 0) := by
  have hk : (keysP l)[j]? = some k := by rw [keysP, List.getElem?_map, h]; rfl
  obtain ⟨h1, h2⟩ := hasN_of hr hk
  have h3 : hasP l k = true := h1
  have h4 : posP l k = j := h2
  rw [getP, if_pos h3, h4, h]
  rfl
theorem get_set {l : List PP} (hr : RiseN (keysP l)) (k v : ByteArray) : getP (setP l k v) k = (v, 0) := get_at (setP_rise hr) (set_at l k v)

/-- a store, above B -/
structure StK (K : LogK) (B : Nat) (F : Nat → Prop) (gk gd : Nat) (s : KS K) (w : World) : Prop where
  kp : IsKeep K w gk gd F s
  hi : ∀ k, F k → B ≤ k
  lo : B ≤ w.heap.size
/-- a store whose disk has power: its pairs, how often its disk was called at most -/
def Live {K : LogK} (hP : LogP K) (B gk gd c : Nat) (l : List PP) (w : World) : Prop := ∃ F s, StK K B F gk gd s w ∧ FineK hP s ∧ s.ps = l ∧ (K.dsk s.S).calls ≤ c
/-- the same, synced -/
def LiveL {K : LogK} (hP : LogP K) (B gk gd c : Nat) (l : List PP) (w : World) : Prop := ∃ F s, StK K B F gk gd s w ∧ FineK hP s ∧ s.ps = l ∧ (K.dsk s.S).calls ≤ c ∧ hP.Last s.S
/-- a disk on which a store lies -/
def Ready {K : LogK} (hP : LogP K) (D : PD) (l : List PP) : Prop := ∃ s, kOpen K D = (some s, 0, K.dsk s.S) ∧ FineK hP s ∧ s.ps = l

section
variable {K : LogK} {hP : LogP K} {B gk gd c : Nat} {F : Nat → Prop} {s : KS K} {l : List PP} {w w' : World}
theorem LiveL.live (h : LiveL hP B gk gd c l w) : Live hP B gk gd c l w := by
  obtain ⟨F, s, h1, h2, h3, h4, _⟩ := h
  exact ⟨F, s, h1, h2, h3, h4⟩
theorem StK.below (hK : LogC K) (h : StK K B F gk gd s w) (hb : Below w.heap.size w w') : StK K B F gk gd s w' := ⟨h.kp.below hK hb, h.hi, Nat.le_trans h.lo hb.size⟩
theorem Live.below (hK : LogC K) (h : Live hP B gk gd c l w) (hb : Below w.heap.size w w') : Live hP B gk gd c l w' := by
  obtain ⟨F, s, h1, h2⟩ := h
  exact ⟨F, s, h1.below hK hb, h2⟩
theorem LiveL.below (hK : LogC K) (h : LiveL hP B gk gd c l w) (hb : Below w.heap.size w w') : LiveL hP B gk gd c l w' := by
  obtain ⟨F, s, h1, h2⟩ := h
  exact ⟨F, s, h1.below hK hb, h2⟩
theorem Live.good (h : Live hP B gk gd c l w) : GoodP l := by
  obtain ⟨F, s, h1, h2, h3, _⟩ := h
  rw [← h3]
  exact h2.good
theorem Live.lo (h : Live hP B gk gd c l w) : B ≤ w.heap.size := by
  obtain ⟨F, s, h1, _⟩ := h
  exact h1.lo
theorem Live.more {c' : Nat} (h : Live hP B gk gd c l w) (hc : c ≤ c') : Live hP B gk gd c' l w := by
  obtain ⟨F, s, h1, h2, h3, h4⟩ := h
  exact ⟨F, s, h1, h2, h3, Nat.le_trans h4 hc⟩
theorem StK.to {s' : KS K} (h : StK K B F gk gd s w) (ht : KeepTo K gk gd F s' w w') : ∃ F' : Nat → Prop, StK K B F' gk gd s' w' ∧ Below B w w' := by
  obtain ⟨F', hl, htt, hF⟩ := ht
  refine ⟨F', ⟨hl, fun k hk => ?_, Nat.le_trans h.lo htt.size⟩, htt.below h.hi h.lo⟩
  rcases hF k hk with hk | hk
  · exact h.hi k hk
  · exact Nat.le_trans h.lo hk
theorem StK.hd (hK : LogC K) (h : StK K B F gk gd s w) : HDG (fun k => k < B) w gd (K.dsk s.S) := by
  obtain ⟨gl, FL, vP, h1, _⟩ := h.kp
  obtain ⟨F', hd, hs⟩ := hK.disk h1.lg
  exact ⟨fun k hk => Nat.lt_of_lt_of_le hk h.lo, F', hd, fun k hk hB => by have := h.hi k (h1.sub k (hs k hk)); omega⟩

theorem live_put (hK : LogC K) (hE : LogE K) (k v : ByteArray) (h : Live hP B gk gd c l w) (hc : c ≤ 800000) (hv : v.size ≤ 140737488351232) :
    Calls Try.prog 18 #[.pointer (some ⟨gk, 0, none⟩), .string k, .string v] w fun e w' => e = .returned (.int .i64 (checkP l k v)) ∧ Live hP B gk gd (c + 8) (if checkP l k v = 0 then setP l k v else l) w' ∧ Below B w w' := by
  obtain ⟨F, s, h1, h2, h3, h4⟩ := h
  subst h3
  refine (kput_is hK k v h1.kp hv (by omega)).mono ?_
  rintro e w' ⟨rfl, hto⟩
  obtain ⟨p1, p2, p3⟩ := put_fine h2 k v
  obtain ⟨F', h5, hb⟩ := h1.to hto
  have hcc := put_cost hE (s := s) k v
  exact ⟨by rw [p1], ⟨F', _, h5, p3, p2, by omega⟩, hb⟩
theorem live_drop (hK : LogC K) (hE : LogE K) (k : ByteArray) (h : Live hP B gk gd c l w) (hc : c ≤ 800000) :
    Calls Try.prog 21 #[.pointer (some ⟨gk, 0, none⟩), .string k] w fun e w' => e = .returned (.int .i64 (dropE l k)) ∧ Live hP B gk gd (c + 8) (if dropE l k = 0 then delP l k else l) w' ∧ Below B w w' := by
  obtain ⟨F, s, h1, h2, h3, h4⟩ := h
  subst h3
  refine (kdrop_is hK k h1.kp (by omega)).mono ?_
  rintro e w' ⟨rfl, hto⟩
  obtain ⟨p1, p2, p3⟩ := drop_fine h2 k
  obtain ⟨F', h5, hb⟩ := h1.to hto
  have hcc := drop_cost hE (s := s) k
  exact ⟨by rw [p1], ⟨F', _, h5, p3, p2, by omega⟩, hb⟩
theorem live_sync (hK : LogC K) (hE : LogE K) (h : Live hP B gk gd c l w) (hc : c ≤ 800000) :
    Calls Try.prog 19 #[.pointer (some ⟨gk, 0, none⟩)] w fun e w' => e = .returned (.int .i64 0) ∧ LiveL hP B gk gd (c + 8) l w' ∧ Below B w w' := by
  obtain ⟨F, s, h1, h2, h3, h4⟩ := h
  subst h3
  refine (ksync_is hK h1.kp (by omega)).mono ?_
  rintro e w' ⟨rfl, hto⟩
  obtain ⟨p1, p2, p3, p4⟩ := sync_fine h2
  obtain ⟨F', h5, hb⟩ := h1.to hto
  have hcc := sync_cost hE (s := s)
  exact ⟨by rw [p1], ⟨F', _, h5, p3, p2, by omega, p4⟩, hb⟩
theorem live_get (hK : LogC K) (k : ByteArray) (h : Live hP B gk gd c l w) :
    Calls Try.prog 13 #[.pointer (some ⟨gk, 0, none⟩), .string k] w fun e w' => e = .returned (.tuple #[.string (getP l k).1, .int .i64 (getP l k).2]) ∧ Below w.heap.size w w' := by
  obtain ⟨F, s, h1, h2, h3, h4⟩ := h
  subst h3
  obtain ⟨gl, FL, vP, h5, h6, _⟩ := h1.kp
  exact kget_is k w h5 h6.1 h6.len hK
theorem live_keys (hK : LogC K) (h : Live hP B gk gd c l w) : Calls Try.prog 20 #[.pointer (some ⟨gk, 0, none⟩)] w (Made w.heap.size 9 w (strs (keysP l))) := by
  obtain ⟨F, s, h1, h2, h3, h4⟩ := h
  subst h3
  obtain ⟨gl, FL, vP, h5, h6, _⟩ := h1.kp
  exact keys_is hK h5 h6.len
theorem ready_new (hP : LogP K) : Ready hP (dNew []) [] := open_fine hP
theorem live_open (hK : LogC K) (hE : LogE K) {D : PD} (hd : HDG (fun k => k < B) w gd D) (hB : B ≤ w.heap.size) (hr : Ready hP D l) (hc : D.calls = 0) :
    Calls Try.prog 8 #[.pointer (some ⟨gd, 0, none⟩)] w fun e w' => ∃ gk, e = .returned (.tuple #[.pointer (some ⟨gk, 0, none⟩), .int .i64 0]) ∧ Live hP B gk gd 4 l w' ∧ Below B w w' := by
  obtain ⟨_, F, hi, hn⟩ := hd
  obtain ⟨s, ho, hf, hl⟩ := hr
  have hF : ∀ k, F k → B ≤ k := fun k hk => Nat.not_lt.1 (hn k hk)
  refine (kopen_is hK hE hi (by omega)).mono ?_
  rintro e w' ⟨F', ht, hF', hor⟩
  have hcc := open_cost hE D
  rw [ho] at hor hcc
  rcases hor with ⟨s', gk, e1, e2, h1, h2⟩ | ⟨e1, _⟩
  · cases e1
    have hF2 : ∀ k, F' k → B ≤ k := fun k hk => by
      rcases hF' k hk with h | h
      · exact hF k h
      · omega
    have hcc2 : (K.dsk s.S).calls ≤ D.calls + 4 := hcc
    exact ⟨gk, e2, ⟨F', s, ⟨h1, hF2, Nat.le_trans hB ht.size⟩, hf, hl, by omega⟩, ht.below hF hB⟩
  · cases e1
theorem live_again (hK : LogC K) (AP : Option Addr) (nP cP : Nat) (ps : List Int) (h : LiveL hP B gk gd c l w) (hz : ps.length = nP) (hr : Rd w AP (i64s ps)) (hcp : nP ≤ cP) (hm : cP ≤ maxLen) (hpr : ∀ x ∈ ps, -9223372036854775808 ≤ x ∧ x ≤ 9223372036854775807) :
    Calls Try.prog 16 #[.pointer (some ⟨gd, 0, none⟩), .slice AP nP cP] w fun e w' => ∃ g' D, e = .returned (.pointer (some ⟨g', 0, none⟩)) ∧ Ready hP D l ∧ D.calls = 0 ∧ HDG (fun k => k < w.heap.size) w' g' D ∧ Below w.heap.size w w' := by
  obtain ⟨F, s, h1, h2, h3, h4, h5⟩ := h
  subst h3
  refine (againG_any gd AP nP cP ps w (h1.hd hK) hz hr hcp hm hpr).mono ?_
  rintro e w' ⟨g', rfl, hd, hb⟩
  exact ⟨g', _, rfl, reopen_fine h2 h5 ps, rfl, hd, hb⟩
theorem kopenNil_is (hK : LogC K) (w : World) : Calls Try.prog 8 #[.pointer none] w fun e w' => e = .returned (.tuple #[.pointer none, .int .i64 1]) ∧ Below w.heap.size w w' := by
  have HO := Lib.hid (hK.openNil w)
  go_enter Try.func8, Try.ntmps8
  go_wp2_with fail
  refine HO.out.mono ?_
  rintro e w2 ⟨rfl, hb2⟩
  go_wp2_with fail
  go_ret2
  exact ⟨rfl, hb2⟩
end

def bA1 : ByteArray := ⟨#[97]⟩
def bOne : ByteArray := ⟨#[49]⟩
theorem put_one : checkP [] bA1 bOne = 0 := by
  refine checkP_of (k := bA1) (v := bOne) ⟨by decide, by decide, by decide⟩ ?_
  rw [(setP_no (l := []) (k := bA1) (v := bOne) rfl).2]
  decide

set_option maxRecDepth 100000 in
set_option maxHeartbeats 2000000 in
theorem wakesK_any {K : LogK} (hK : LogC K) (hE : LogE K) (hP : LogP K) (w : World) : Calls Try.prog 17 #[] w (Tells w.heap.size w (.bool true)) := by
  have hg0 := get_set (l := []) rise_nil bA1 bOne
  obtain ⟨l1, hl1⟩ : ∃ l1, setP [] bA1 bOne = l1 := ⟨_, rfl⟩
  rw [hl1] at hg0
  have HG0 := Lib.hid hg0
  have HL1 := Lib.hid hl1
  clear hg0 hl1
  go_enter Try.func17, Try.ntmps17
  go_wp2_with fail
  refine (diskG_any _).mono ?_
  rintro e w3 ⟨gd, rfl, hd3, hb3⟩
  have HD3 := Lib.hid hd3
  clear hd3
  go_wp2_with fail
  refine (live_open (hP := hP) hK hE HD3.out hb3.size (ready_new hP) rfl).mono ?_
  rintro e w4 ⟨gk, rfl, hl4, hb4⟩
  have HL4 := Lib.hid hl4
  have hb14 := hb3.trans hb4
  clear hl4
  go_wp2_with fail
  refine (num11_any _ _).mono ?_
  rintro e w' ⟨rfl, rfl⟩
  go_wp2_with fail
  refine (live_put hK hE bA1 bOne HL4.out (by omega) (by decide)).mono ?_
  rintro e w5 ⟨he, hl5, hb5⟩
  rw [put_one] at he
  rw [if_pos put_one, HL1.out] at hl5
  subst he
  have HL5 := Lib.hid hl5
  have hb15 := hb14.trans hb5
  clear hl5
  go_wp2_with fail
  refine (num11_any _ _).mono ?_
  rintro e w' ⟨rfl, rfl⟩
  go_wp2_with fail
  refine (live_get hK bA1 HL5.out).mono ?_
  rintro e w6 ⟨he, hb6⟩
  rw [HG0.out] at he
  subst he
  have hb16 := hb15.trans (hb6.mono HL5.out.lo)
  have j1 : (bOne.toList == [49]) = true := by rw [Lib.toList_data]; rfl
  have j2 : bOne.toList = [49] := by rw [Lib.toList_data]; rfl
  go_wp2_with fail
  refine (num11_any _ _).mono ?_
  rintro e w' ⟨rfl, rfl⟩
  go_wp2_with fail
  go_ret
  exact ⟨rfl, hb16⟩

end Go.Proofs.Ytaccmjgnggepjaa
