/-
  Package message's cutList as landed.
-/
import Derived.Test.YtafkcofocjellaaMNums
namespace Go.Proofs.Ytafkcofocjellaa
open Go.RowKit

/-- what holds at the label -/
inductive WrongC (p : Prop) (w : World) : Act → World → Prop
  | mk (u0 u1 u2 u3 u4 u5 u6 u7 u8 u9 u10 u11 u12 u13 u14 u15 u16 u17 u18 u19 u20 u21 u22 u23 u24 u25 u26 u27 u28 u29 u30 u31 u32 u33 u34 : Value) (w' : World) (h : p) (hb : Below w.heap.size w w') : WrongC p w { tmps := #[u0, u1, u2, u3, u4, u5, u6, u7, u8, u9, u10, u11, u12, u13, u14, u15, u16, u17, u18, u19, u20, u21, u22, u23, u24, u25, u26, u27, u28, u29, u30, u31, u32, u33, u34], defers := [] } w'
theorem wrongC_elim {p : Prop} {w : World} {G : Act → World → Prop} (h : ∀ (u0 u1 u2 u3 u4 u5 u6 u7 u8 u9 u10 u11 u12 u13 u14 u15 u16 u17 u18 u19 u20 u21 u22 u23 u24 u25 u26 u27 u28 u29 u30 u31 u32 u33 u34 : Value) (w' : World), p → Below w.heap.size w w' → G { tmps := #[u0, u1, u2, u3, u4, u5, u6, u7, u8, u9, u10, u11, u12, u13, u14, u15, u16, u17, u18, u19, u20, u21, u22, u23, u24, u25, u26, u27, u28, u29, u30, u31, u32, u33, u34], defers := [] } w') : ∀ a' w', WrongC p w a' w' → G a' w' := fun a' w' k => by
  cases k with
  | mk u0 u1 u2 u3 u4 u5 u6 u7 u8 u9 u10 u11 u12 u13 u14 u15 u16 u17 u18 u19 u20 u21 u22 u23 u24 u25 u26 u27 u28 u29 u30 u31 u32 u33 u34 _ hp hb => exact h _ _ _ _ _ _ _ _ _ _ _ _ _ _ _ _ _ _ _ _ _ _ _ _ _ _ _ _ _ _ _ _ _ _ _ _ hp hb

theorem mblock_add (a : Addr) (i : Nat) : (a.add i).block = a.block := by unfold Addr.add; split <;> rfl
/-- a rest lies where the whole lies -/
def Same (A Ar : Option Addr) : Prop := ∀ g, (∀ a, A = some a → a.block ≠ g) → ∀ a, Ar = some a → a.block ≠ g
theorem same_none (A : Option Addr) : Same A none := fun _ _ a h => by cases h
theorem same_cut {A Ar : Option Addr} {c k : Nat} (h : Same A Ar) : Same A (if c = k then Ar else Ar.map (·.add k)) := fun g hg a ha => by
  by_cases hck : c = k
  · rw [if_pos hck] at ha; exact h g hg a ha
  · rw [if_neg hck] at ha
    cases Ar with
    | none => cases ha
    | some x =>
      simp only [Option.map_some, Option.some.injEq] at ha
      subst ha
      rw [mblock_add]
      exact h g hg x rfl
/-- what cutList tells -/
def CutGot (A0 : Option Addr) (w w' : World) (e : Ending) : Option (List Int × List Int) → Prop
  | none => e = .returned (.tuple #[.slice none 0 0, .slice none 0 0, .bool false])
  | some (l, r) => ∃ A c Ar cr, e = .returned (.tuple #[.slice A l.length c, .slice Ar r.length cr, .bool true]) ∧ w'.ownsRow w.heap.size 3 1 (.slice A l.length c) l.length (i64s l) ∧ Rd w' Ar (u8s r) ∧ r.length ≤ cr ∧ cr ≤ maxLen ∧ Same A0 Ar
theorem got_no {A0 : Option Addr} {w w' : World} {e : Ending} {o : Option (List Int × List Int)} (h : o = none) (he : e = .returned (.tuple #[.slice none 0 0, .slice none 0 0, .bool false])) : CutGot A0 w w' e o := by rw [h]; exact he
theorem got_yes {A0 : Option Addr} {w w' : World} {e : Ending} {o : Option (List Int × List Int)} {l r : List Int} {v : Value} {n m : Nat} {Ar : Option Addr} {cr : Nat} (h : o = some (l, r)) (hr : r.length = m) (he : e = .returned (.tuple #[v, .slice Ar m cr, .bool true]))
    (ho : w'.ownsRow w.heap.size 3 1 v n (i64s l)) (hrd : Rd w' Ar (u8s r)) (hc : m ≤ cr) (hm : cr ≤ maxLen) (hs : Same A0 Ar) : CutGot A0 w w' e o := by
  rw [h]
  have e1 : n = l.length := by have := ho.1; rw [i64s_length] at this; omega
  subst e1 hr
  obtain ⟨A, c, rfl, _⟩ := own_val ho
  exact ⟨A, c, Ar, cr, he, ho, hrd, hc, hm, hs⟩
/-- what is left to read, with what is read -/
def leftM (k : Nat) (l : List Int) (c : Nat) (z : List Int) : Option (List Int × List Int) := (cutM k c z).map fun q => (l ++ q.1, q.2)
theorem leftM_start (k c : Nat) (z : List Int) : leftM k [] c z = cutM k c z := by unfold leftM; simp
theorem leftM_end (k : Nat) (l z : List Int) : leftM k l 0 z = some (l, z) := by simp [leftM, cutM]
theorem leftM_none {k c : Nat} {l z : List Int} (h : z.length < k) : leftM k l (c + 1) z = none := by simp [leftM, cutM, cutN_none h]
theorem leftM_some {k c : Nat} {l z : List Int} (h : k ≤ z.length) : leftM k l (c + 1) z = leftM k (l ++ [beVal 0 (z.take k)]) c (z.drop k) := by
  simp only [leftM, cutM, cutN_some h, Option.bind_some, Option.map_map]
  congr 1
  funext q
  simp

set_option maxRecDepth 100000 in
set_option maxHeartbeats 4000000 in
theorem cutList_any (A : Option Addr) (c n : Nat) (zs : List Int) (k : Nat) (hk : Sz k) (kI : Int) (hkI : kI = (k : Int)) (w : World) (hz : zs.length = n) (hr : Rd w A (u8s zs)) (hy : Byts zs) (hc : n ≤ c) (hcm : c ≤ maxLen) (hn : n ≤ 1000000) :
    Calls Try.prog 69 #[.slice A n c, .int .i64 kI] w fun e w' => Below w.heap.size w w' ∧ CutGot A w w' e (cutL k zs) := by
  have HZ := Lib.hid hz
  have HK := Lib.hid hkI
  have HKS := Lib.hid hk
  have hkb : 1 ≤ k ∧ k ≤ 3 := by rcases hk with rfl | rfl <;> omega
  clear hz hkI hk
  by_cases h1 : n < 1
  · have HN : Hid (cutL k zs = none) := by show cutL k zs = none; rw [cutL, cutN_none (by rw [HZ.out]; exact h1)]; rfl
    have HV : Hid (cutV A c n 1 zs = .tuple #[.int .i64 0, .slice none 0 0, .bool false]) := by show cutV A c n 1 zs = _; rw [cutV, if_pos h1]
    go_enter Try.func69, Try.ntmps69
    go_wp2_with fail
    refine wp_scope_jumps 0 (WrongC False w) (fun _ _ => 0) rfl ?_ (wrongC_elim (fun _ _ _ _ _ _ _ _ _ _ _ _ _ _ _ _ _ _ _ _ _ _ _ _ _ _ _ _ _ _ _ _ _ _ _ _ h _ => h.elim))
    go_wp2_with fail
    refine (cutNum_any A c n zs 1 sz_one 1 rfl _ HZ.out hr hy hc hn).mono ?_
    rintro e w' ⟨rfl, d, rfl⟩
    rw [HV.out]
    go_wp2_with fail
    go_loopw [4, 5, 6, 16] (fun v r q i wr => v = .slice none 0 0 ∧ r = .slice none 0 0 ∧ q = .bool false ∧ i = .int .i64 0 ∧ wr = w.drewN d) (fun _ _ _ _ _ => 0)
    case atStart => exact ⟨rfl, rfl, rfl, rfl, rfl⟩
    case round =>
      obtain ⟨rfl, rfl, rfl, rfl, rfl⟩ := hrel
      go_wp2_with fail
      simp only [Exit.jump]
      go_ret3
      exact ⟨below_n (Below.refl _ _) d, got_no HN.out rfl⟩
  · obtain ⟨b, off, rfl, hbl, _⟩ := hr.open_ (by rw [u8s_length, HZ.out]; omega)
    have hv1 : cutV (some ⟨b, off, none⟩) c n 1 zs = .tuple #[.int .i64 (beVal 0 (zs.take 1)), .slice (if c = 1 then some ⟨b, off, none⟩ else (some (⟨b, off, none⟩ : Addr)).map (·.add 1)) (n - 1) (c - 1), .bool true] := by rw [cutV, if_neg h1]
    have hr1 : Rd w (if c = 1 then some ⟨b, off, none⟩ else (some (⟨b, off, none⟩ : Addr)).map (·.add 1)) (u8s (zs.drop 1)) := by
      have := hr.cut (k := 1) (c := c) (by rw [u8s_length, HZ.out]; exact hc)
      simpa [u8s, List.map_drop] using this
    obtain ⟨_, hy0, hy1⟩ := be_val sz_one (hy.take 1) (by rw [List.length_take, HZ.out]; omega)
    have hl1 : cutL k zs = cutM k (beVal 0 (zs.take 1)).toNat (zs.drop 1) := by rw [cutL, cutN_some (by rw [HZ.out]; omega)]; rfl
    rw [top_one] at hy1
    obtain ⟨m, hm⟩ : ∃ m : Nat, beVal 0 (zs.take 1) = (m : Int) := ⟨(beVal 0 (zs.take 1)).toNat, by omega⟩
    rw [hm] at hv1 hl1 hy1
    rw [Int.toNat_natCast] at hl1
    obtain ⟨A1, hA1⟩ : ∃ A1, A1 = if c = 1 then some (⟨b, off, none⟩ : Addr) else (some (⟨b, off, none⟩ : Addr)).map (·.add 1) := ⟨_, rfl⟩
    rw [← hA1] at hv1 hr1
    have HV := Lib.hid hv1
    have HS1 : Hid (Same (some ⟨b, off, none⟩) A1) := by show Same _ A1; rw [hA1]; exact same_cut fun _ hg => hg
    have HL : Hid (cutL k zs = leftM k [] (m - 0) (zs.drop 1)) := by rw [leftM_start]; exact hl1
    have hm255 : m < 256 := by omega
    have hz1 : (zs.drop 1).length = n - 1 := by rw [List.length_drop, HZ.out]
    have hc1 : n - 1 ≤ c - 1 := by omega
    have hcm1 : c - 1 ≤ maxLen := by omega
    clear hv1 hl1 hm hy0 hy1 hA1
    go_enter Try.func69, Try.ntmps69
    go_wp2_with fail
    refine wp_scope_jumps 0 (WrongC (cutL k zs = none) w) (fun _ _ => 0) rfl ?_ ?_
    · go_wp2_with fail
      refine (cutNum_any _ c n zs 1 sz_one 1 rfl _ HZ.out hr hy hc hn).mono ?_
      rintro e w' ⟨rfl, d, rfl⟩
      rw [HV.out]
      go_wp2_with fail
      go_loopw [4, 5, 6, 16] (fun v r q i wr => ∃ (j : Nat) (l z : List Int) (Ar : Option Addr) (cr nr : Nat), i = .int .i64 j ∧ r = .slice Ar nr cr ∧ q = .bool true ∧ j ≤ m ∧ l.length = j ∧ Hid (z.length = nr) ∧ nr ≤ cr ∧ Hid (cr ≤ maxLen) ∧ nr ≤ n ∧ Byts z ∧ Rd w Ar (u8s z) ∧ wr.ownsRow w.heap.size 3 1 v j (i64s l) ∧ Hid (cutL k zs = leftM k l (m - j) z) ∧ Below w.heap.size w wr ∧ Hid (Same (some ⟨b, off, none⟩) Ar)) (fun _ _ _ i _ => m - (intOf i).toNat)
      case atStart => exact ⟨0, [], zs.drop 1, A1, c - 1, n - 1, rfl, rfl, rfl, by omega, rfl, hz1, hc1, hcm1, by omega, hy.drop 1, hr1, World.ownsRow_nil _ _ _ _, HL.out, below_n (Below.refl _ _) d, HS1.out⟩
      case round =>
        clear hr hr1 hz1 hc1 hcm1
        obtain ⟨j, l, z, Ar, cr, nr, rfl, rfl, rfl, hj, hlj, HZR, hnc, HCR, hnn, hyz, hrz, ho, HLF, hb, HSA⟩ := hrel
        have HLJ := Lib.hid hlj
        clear hlj
        by_cases hlt : j < m
        · have i1 : (j : Int) < (m : Int) := by omega
          obtain ⟨d2, hd2⟩ : ∃ d2, m - j = d2 + 1 := ⟨m - j - 1, by omega⟩
          have HD2 := Lib.hid hd2
          clear hd2
          by_cases hs : nr < k
          · have HVR : Hid (cutV Ar cr nr k z = .tuple #[.int .i64 0, .slice none 0 0, .bool false]) := by show cutV Ar cr nr k z = _; rw [cutV, if_pos hs]
            have HN : Hid (cutL k zs = none) := by show cutL k zs = none; rw [HLF.out, HD2.out, leftM_none (by rw [HZR.out]; exact hs)]
            go_wp2_with fail
            refine (cutNum_any Ar cr nr z k HKS.out kI HK.out _ HZR.out (hrz.below hb) hyz hnc (by omega)).mono ?_
            rintro e w' ⟨rfl, d3, rfl⟩
            rw [HVR.out]
            go_wp2_with fail
            go_step3
            show 0 = 0 ∧ WrongC (cutL k zs = none) w _ _
            exact ⟨rfl, .mk _ _ _ _ _ _ _ _ _ _ _ _ _ _ _ _ _ _ _ _ _ _ _ _ _ _ _ _ _ _ _ _ _ _ _ _ HN.out (below_n hb d3)⟩
          · have hvr : cutV Ar cr nr k z = .tuple #[.int .i64 (beVal 0 (z.take k)), .slice (if cr = k then Ar else Ar.map (·.add k)) (nr - k) (cr - k), .bool true] := by rw [cutV, if_neg hs]
            have hr2 : Rd w (if cr = k then Ar else Ar.map (·.add k)) (u8s (z.drop k)) := by
              have := hrz.cut (k := k) (c := cr) (by rw [u8s_length, HZR.out]; exact hnc)
              simpa [u8s, List.map_drop] using this
            obtain ⟨A2, hA2⟩ : ∃ A2, A2 = if cr = k then Ar else Ar.map (·.add k) := ⟨_, rfl⟩
            rw [← hA2] at hvr hr2
            obtain ⟨y, hye⟩ : ∃ y, y = beVal 0 (z.take k) := ⟨_, rfl⟩
            have hnx : cutL k zs = leftM k (l ++ [y]) (m - (j + 1)) (z.drop k) := by
              rw [HLF.out, HD2.out, leftM_some (by rw [HZR.out]; omega), hye]
              congr 1
              have := HD2.out
              omega
            rw [← hye] at hvr
            have HS2 : Hid (Same (some ⟨b, off, none⟩) A2) := by show Same _ A2; rw [hA2]; exact same_cut HSA.out
            have HVR := Lib.hid hvr
            have HNX := Lib.hid hnx
            clear hvr hnx hA2 hye
            go_wp2_with fail
            refine (cutNum_any Ar cr nr z k HKS.out kI HK.out _ HZR.out (hrz.below hb) hyz hnc (by omega)).mono ?_
            rintro e w' ⟨rfl, d3, rfl⟩
            rw [HVR.out]
            go_wp2_with (at_builtin; refine wpList_app_one _ rfl _ _ 26 rfl w.heap.size 3 (.int .i64 0) 8 Try.underlying26 info_i64 rfl (by decide) _ j _ rfl ((own_n ho d3).alloc _) _ (.int .i64 y) rfl (cell_new _ _ _) rfl (by omega) (by have := hb.size; simp; omega) ?_)
            intro v2 w2 ho2 hb2
            have ho3 := own_conv (n' := j + 1) (ys := i64s (l ++ [y])) ho2 (by simp [i64s]) rfl
            have hb3 : Below w.heap.size w w2 := ((below_n hb d3).alloc (by simpa using hb.size) _).trans hb2
            have hz3 : (z.drop k).length = nr - k := by rw [List.length_drop, HZR.out]
            have HZ3 := Lib.hid hz3
            have HC3 : Hid (cr - k ≤ maxLen) := by have := HCR.out; show cr - k ≤ maxLen; omega
            clear ho ho2 hb2 hz3 hb
            go_wp2_with fail
            go_roundw
            case rel => exact ⟨j + 1, l ++ [y], z.drop k, A2, cr - k, nr - k, by go_num, rfl, rfl, by omega, by simp [HLJ.out], HZ3, by omega, HC3, by omega, hyz.drop k, hr2, ho3, HNX, hb3, HS2⟩
            case measure => simp [intOf]; omega
        · obtain rfl : j = m := by omega
          have i1 : ¬ ((j : Int) < (j : Int)) := by omega
          have HY : Hid (cutL k zs = some (l, z)) := by show cutL k zs = _; rw [HLF.out, Nat.sub_self, leftM_end]
          go_wp2_with fail
          simp only [Exit.jump]
          go_ret3
          exact ⟨hb, got_yes HY.out HZR.out rfl ho (hrz.below hb) hnc HCR.out HSA.out⟩
    · refine wrongC_elim ?_
      intro u0 u1 u2 u3 u4 u5 u6 u7 u8 u9 u10 u11 u12 u13 u14 u15 u16 u17 u18 u19 u20 u21 u22 u23 u24 u25 u26 u27 u28 u29 u30 u31 u32 u33 u34 w' hno hb
      have HN := Lib.hid hno
      clear hno
      go_wp2_with fail
      simp only [Exit.jump]
      go_ret3
      exact ⟨hb, got_no HN.out rfl⟩

end Go.Proofs.Ytafkcofocjellaa
