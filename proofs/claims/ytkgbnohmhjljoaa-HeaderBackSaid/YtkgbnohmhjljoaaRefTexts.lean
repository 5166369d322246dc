/-
  The walks of the page's own answers on texts, and on what lists are read as.
-/
import Derived.Test.YtkgbnohmhjljoaaRefLists
namespace Go.Proofs.Ytkgbnohmhjljoaa
open Go.RowKit

set_option maxRecDepth 100000 in
set_option maxHeartbeats 1000000 in
theorem rput_yes (A : Option Addr) (c n : Nat) (L : List ByteArray) (w : World) (hz : L.length = n) (hr : Rd w A (strs L)) (hn : n ≤ 1048576) (hfit : (putPuts (L.map byt)).length ≤ 1048576) :
    Calls Try.prog 45 #[.slice A n c] w (Made2 w.heap.size 5 w (u8s (putPuts (L.map byt))) (.bool true)) := by
  rw [putPuts_byt, hz] at hfit ⊢
  simp only [List.length_append] at hfit
  have HZ := Lib.hid hz
  clear hz
  have hcv := fun (w : World) (s : ByteArray) => Lib.run_convert_string_bytes (P := Try.prog) w 9 28 5 s Try.underlying9 Try.underlying28 Try.underlying5
  go_enter Try.func45, Try.ntmps45
  go_wp2_with fail
  refine (rnum_any n _ (by omega)).mono ?_
  rintro e w1 ⟨v, rfl, hown, hb1⟩
  go_wp2_with fail
  go_loopw [4, 5] (fun v i wr => ∃ k K : Nat, i = .int .i64 k ∧ k ≤ n ∧ wr.ownsRow w.heap.size 5 1 v K (u8s (vnum n ++ preT L k)) ∧ Below w.heap.size w wr) (fun _ i _ => n - (intOf i).toNat)
  case atStart => exact ⟨0, _, rfl, by omega, by rw [preT_zero, List.append_nil]; exact hown, hb1⟩
  case round =>
    obtain ⟨k, K, rfl, hk, ho, hb⟩ := hrel
    clear hown hb1
    have hKl := ho.1
    by_cases hlt : k < n
    · obtain ⟨b, off, rfl, hbl, hcell⟩ := (hr.below hb).open_ (by rw [strs_length, HZ.out]; omega)
      have hc1 := hcell k _ (strs_at (by rw [HZ.out]; exact hlt))
      obtain ⟨s, hs⟩ : ∃ s, s = L[k]?.getD ByteArray.empty := ⟨_, rfl⟩
      rw [← hs] at hc1
      have hsome : L[k]? = some s := by rw [hs]; exact getD_some (by rw [HZ.out]; exact hlt)
      have hst := vputs_step hsome
      have hst1 := congrArg List.length hst
      have hle := vputs_le L (k + 1)
      simp only [List.length_append, byt_length] at hst1
      rw [u8s_length, List.length_append] at hKl
      have hK2 : K + ((vnum s.size).length + s.size) ≤ 1048576 := by omega
      have hs63 : s.size < 9223372036854775808 := by omega
      have HS := Lib.hid hst
      have HC := Lib.hid hc1
      have i0 : (0 : Int) ≤ (k : Int) := by omega
      have i1 : (k : Int) < (n : Int) := by omega
      clear hcell hst hst1 hle hs hsome hKl
      go_wp2_with fail
      refine (rnum_any s.size _ hs63).mono ?_
      rintro e w2 ⟨v2, rfl, ho2, hb2⟩
      obtain ⟨A2, c2, rfl, _, _, hr2, _, hl2⟩ := own_val ho2
      have ho' := own_below ho hb2
      have hl3 : (u8s (vnum s.size)).length = (vnum s.size).length := u8s_length _
      rw [hl3] at hl2 ⊢
      have HL2 := Lib.hid hl2
      have HL3 := Lib.hid hl3
      clear hl2 hl3 ho2 ho
      go_wp2_with (at_builtin; refine wpList_app_list _ rfl _ _ 28 rfl w.heap.size 5 (.int .u8 0) 1 Try.underlying28 info_u8 rfl (by decide) _ K _ rfl ho' A2 (vnum s.size).length c2 (u8s (vnum s.size)) rfl HL3.out.symm hr2 (u8s_one _) (by omega) (by have := hb.size; have := hb2.size; omega) ?_)
      intro v4 w4 ho4 hb4
      have hb5 := (hb.trans (hb2.mono hb.size)).trans hb4
      obtain ⟨K4, hK4⟩ : ∃ K4, K4 = K + (vnum s.size).length := ⟨_, rfl⟩
      rw [← hK4] at ho4
      have hK5 : K4 + s.size ≤ 1048576 := by omega
      have HK4 := Lib.hid hK4
      clear ho' hb2 hb4 hc1 hK4
      have hc2 : w4.cell? ⟨b, off + k, none⟩ = some (.string s) := by
        obtain ⟨b', off', hA, _, hcl⟩ := (hr.below hb5).open_ (by rw [strs_length, HZ.out]; omega)
        cases hA
        have := hcl k _ (strs_at (by rw [HZ.out]; exact hlt))
        have h2 := HC.out
        obtain ⟨b'', off'', hA', _, hcl'⟩ := (hr.below hb).open_ (by rw [strs_length, HZ.out]; omega)
        cases hA'
        have h3 := hcl' k _ (strs_at (by rw [HZ.out]; exact hlt))
        rw [h2] at h3
        rw [this, ← h3]
      have hrd := text_rd w4 5 s
      have hbt := text_below w4 5 s
      have hln : (Lib.strCells s).length = s.size := Lib.strCells_length s
      have HLN := Lib.hid hln
      clear hln
      have ho5 := own_below ho4 hbt
      go_wp2_with (at_builtin; refine wpList_app_list _ rfl _ _ 28 rfl w.heap.size 5 (.int .u8 0) 1 Try.underlying28 info_u8 rfl (by decide) _ K4 _ rfl ho5 _ s.size _ (Lib.strCells s) rfl HLN.out.symm hrd (Lib.strCells_oneCell s) (by omega) (by have := hb5.size; have := hbt.size; omega) ?_)
      intro v6 w6 ho6 hb6
      have ho7 : w6.ownsRow w.heap.size 5 1 v6 (K4 + s.size) (u8s (vnum n ++ preT L (k + 1))) := own_conv ho6 (by rw [HS.out, ← byt_cells]; simp only [u8s_append, List.append_assoc]) rfl
      have hb7 := (hb5.trans (hbt.mono hb5.size)).trans hb6
      clear ho4 ho5 ho6 hb6 hbt hrd
      obtain ⟨K7, hK7⟩ : ∃ K7, K7 = K4 + s.size := ⟨_, rfl⟩
      rw [← hK7] at ho7
      have hK8 : ¬ (1048576 < (K7 : Int)) := by omega
      clear hK7
      obtain ⟨A7, c7, rfl, _, _, _, _, hl7⟩ := own_val ho7
      clear hl7
      go_wp2_with fail
      go_roundw
      case rel => exact ⟨k + 1, K7, by go_num, by omega, ho7, hb7⟩
      case measure => simp [intOf]; omega
    · obtain rfl : k = n := by omega
      rw [preT_all HZ.out] at ho
      obtain ⟨A2, c2, rfl, _, _, _, _, hl2⟩ := own_val ho
      rw [u8s_length, List.length_append] at hl2
      have hK2 : K ≤ 1048576 := by omega
      have hK3 : (K : Int) ≤ 1048576 := by omega
      have i1 : ¬ ((k : Int) < (k : Int)) := by omega
      clear hl2
      go_wp2_with fail
      go_ret2
      exact ⟨_, rfl, own_cast ho (by have := ho.1; omega), hb⟩

/-! ### what lists are read as -/
/-- a list that the page reads, or none -/
def RGot (B : Nat) (e : TypeId) (w : World) (r : Option (List Value)) (en : Ending) (w' : World) : Prop :=
  match r with
  | some xs => Made2 B e w xs (.bool true) en w'
  | none => ∃ v, en = .returned (.tuple #[v, .bool false]) ∧ Below B w w'
theorem rgot_some {B : Nat} {e : TypeId} {w w' : World} {r : Option (List Value)} {xs : List Value} {en : Ending} (h : r = some xs) (k : Made2 B e w xs (.bool true) en w') : RGot B e w r en w' := by rw [h]; exact k
theorem rgot_none {B : Nat} {e : TypeId} {w w' : World} {r : Option (List Value)} {en : Ending} (v : Value) (h : r = none) (k : en = .returned (.tuple #[v, .bool false])) (hb : Below B w w') : RGot B e w r en w' := by rw [h]; exact ⟨v, k, hb⟩

theorem over_none {zs : List Int} {m k : Nat} (hy : Byts zs) (hg : gn 0 0 zs = some (m, k)) (hlong : zs.length < m) : getNums zs = none ∧ getPuts zs = none := by
  rw [leftN_start hg, leftT_start hg]
  exact ⟨leftN_over (hy.drop k) (by simp; omega), leftT_over (hy.drop k) (by simp; omega)⟩

/-- the same, and what comes with a false is a slice too -/
def RGotS (B : Nat) (e : TypeId) (w : World) (r : Option (List Value)) (en : Ending) (w' : World) : Prop :=
  match r with
  | some xs => Made2 B e w xs (.bool true) en w'
  | none => ∃ A n c, en = .returned (.tuple #[.slice A n c, .bool false]) ∧ Below B w w'
theorem rgotS_some {B : Nat} {e : TypeId} {w w' : World} {r : Option (List Value)} {xs : List Value} {en : Ending} (h : r = some xs) (k : Made2 B e w xs (.bool true) en w') : RGotS B e w r en w' := by rw [h]; exact k
theorem rgotS_none {B : Nat} {e : TypeId} {w w' : World} {r : Option (List Value)} {en : Ending} (v : Value) (hv : ∃ A n c, v = .slice A n c) (h : r = none) (k : en = .returned (.tuple #[v, .bool false])) (hb : Below B w w') : RGotS B e w r en w' := by
  obtain ⟨A, n, c, rfl⟩ := hv
  rw [h]
  exact ⟨A, n, c, k, hb⟩
theorem RGotS.weak {B : Nat} {e : TypeId} {w w' : World} {r : Option (List Value)} {en : Ending} (h : RGotS B e w r en w') : RGot B e w r en w' := by
  cases r with
  | some xs => exact h
  | none => obtain ⟨A, n, c, he, hb⟩ := h; exact ⟨_, he, hb⟩

set_option maxRecDepth 100000 in
set_option maxHeartbeats 4000000 in
theorem rgetNums_all (A : Option Addr) (c n : Nat) (zs : List Int) (w : World) (hz : zs.length = n) (hr : Rd w A (u8s zs)) (hy : Byts zs) (hc : n ≤ c) (hcm : c ≤ maxLen) (hn : n ≤ 1048576) :
    Calls Try.prog 52 #[.slice A n c] w (RGotS w.heap.size 3 w (numsOf (getNums zs))) := by
  unfold maxLen at hcm
  have HZ := Lib.hid hz
  clear hz
  cases hg : gn 0 0 zs with
  | none =>
    have hno := getNums_none hg
    have HG := Lib.hid hg
    have HN := Lib.hid hno
    clear hg hno
    go_enter Try.func52, Try.ntmps52
    go_wp2_with fail
    refine (rgetNum_any A c n zs _ HZ.out hr hy (by omega)).mono ?_
    rintro e w' ⟨rfl, hb⟩
    rw [HG.out]
    unfold rgnVal
    go_wp2_with fail
    go_ret2
    exact rgotS_none _ ⟨_, _, _, rfl⟩ (by rw [HN.out]; rfl) rfl hb
  | some p =>
    obtain ⟨m, k⟩ := p
    obtain ⟨_, e0, e1, hm63, hk0, hk, e2⟩ := put_get hy hg
    clear e0 e1 e2
    rw [HZ.out] at hk
    have e3 : ((k : Int) == 0) = false := by simp; omega
    by_cases hover : n < m
    · have hno := (over_none hy hg (by rw [HZ.out]; exact hover)).1
      have HG := Lib.hid hg
      have HN := Lib.hid hno
      clear hg hno
      have i1 : (n : Int) < (m : Int) := by omega
      go_enter Try.func52, Try.ntmps52
      go_wp2_with fail
      refine (rgetNum_any A c n zs _ HZ.out hr hy (by omega)).mono ?_
      rintro e w' ⟨rfl, hb⟩
      rw [HG.out]
      unfold rgnVal
      go_wp2_with fail
      go_ret2
      exact rgotS_none _ ⟨_, _, _, rfl⟩ (by rw [HN.out]; rfl) rfl hb
    · have hst := leftN_start hg
      obtain ⟨b, off, rfl, hbl, hcell⟩ := hr.open_ (by rw [u8s_length, HZ.out]; omega)
      have HG := Lib.hid hg
      have HS := Lib.hid hst
      clear hg hst hcell
      have i1 : ¬ ((n : Int) < (m : Int)) := by omega
      go_enter Try.func52, Try.ntmps52
      go_wp2_with fail
      refine (rgetNum_any _ c n zs _ HZ.out hr hy (by omega)).mono ?_
      rintro e w1 ⟨rfl, hb1⟩
      rw [HG.out]
      unfold rgnVal
      go_wp2_with fail
      go_loopw [5, 6, 7] (fun q v i wr => ∃ (j at_ : Nat) (L : List Nat), i = .int .i64 j ∧ q = .int .i64 at_ ∧ j ≤ m ∧ at_ ≤ n ∧ L.length = j ∧ wr.ownsRow w.heap.size 3 1 v j (i64s (nats L)) ∧ getNums zs = leftN L (m - j) (zs.drop at_) ∧ Below w.heap.size w wr) (fun _ _ i _ => m - (intOf i).toNat)
      case atStart => exact ⟨0, k, [], rfl, rfl, by omega, hk, rfl, World.ownsRow_nil _ _ _ _, HS.out, hb1⟩
      case round =>
        obtain ⟨j, at_, L, rfl, rfl, hj, hat, hL, ho, hleft, hb⟩ := hrel
        clear hb1
        have HL := Lib.hid hL
        have HF := Lib.hid hleft
        clear hL hleft
        by_cases hlt : j < m
        · have i2 : (j : Int) < (m : Int) := by omega
          obtain ⟨d, hd⟩ : ∃ d, m - j = d + 1 := ⟨m - j - 1, by omega⟩
          have hrest : Rd wr (if c = at_ then some ⟨b, off, none⟩ else (some (⟨b, off, none⟩ : Addr)).map (·.add at_)) (u8s (zs.drop at_)) := by
            have := (hr.below hb).cut (k := at_) (c := c) (by rw [u8s_length, HZ.out]; omega)
            simpa [u8s, List.map_drop] using this
          have hrl : (zs.drop at_).length = n - at_ := by rw [List.length_drop, HZ.out]
          have HRL := Lib.hid hrl
          have HDD := Lib.hid hd
          clear hrl hd
          cases hgn : gn 0 0 (zs.drop at_) with
          | none =>
            have hno : getNums zs = none := by rw [HF.out, HDD.out, leftN_none hgn]
            have HN := Lib.hid hno
            have HGN := Lib.hid hgn
            clear hno hgn
            by_cases hca : c = at_
            · rw [if_pos hca] at hrest
              go_wp2_with fail
              refine (rgetNum_any _ _ (n - at_) _ _ HRL.out hrest (hy.drop _) (by omega)).mono ?_
              rintro e w2 ⟨rfl, hb2⟩
              rw [HGN.out]
              unfold rgnVal
              go_wp2_with fail
              go_ret2
              exact rgotS_none _ ⟨_, _, _, rfl⟩ (by rw [HN.out]; rfl) rfl (hb.trans (hb2.mono hb.size))
            · rw [if_neg hca, Option.map_some, Addr.add_lit] at hrest
              go_wp2_with fail
              refine (rgetNum_any _ _ (n - at_) _ _ HRL.out hrest (hy.drop _) (by omega)).mono ?_
              rintro e w2 ⟨rfl, hb2⟩
              rw [HGN.out]
              unfold rgnVal
              go_wp2_with fail
              go_ret2
              exact rgotS_none _ ⟨_, _, _, rfl⟩ (by rw [HN.out]; rfl) rfl (hb.trans (hb2.mono hb.size))
          | some p =>
            obtain ⟨x, sz⟩ := p
            obtain ⟨_, e0, e1, hx63, hs0, hsl, e2⟩ := put_get (hy.drop _) hgn
            clear e0 e1 e2
            rw [HRL.out] at hsl
            have e4 : ((sz : Int) == 0) = false := by simp; omega
            have hca : ¬ c = at_ := by omega
            rw [if_neg hca, Option.map_some, Addr.add_lit] at hrest
            have hnext : getNums zs = leftN (L ++ [x]) (m - (j + 1)) (zs.drop (at_ + sz)) := by
              rw [HF.out, HDD.out, leftN_some hgn, List.drop_drop]
              congr 1
              have := HDD.out
              omega
            have HX := Lib.hid hnext
            have HGN := Lib.hid hgn
            clear hnext hgn
            go_wp2_with fail
            refine (rgetNum_any _ _ (n - at_) _ _ HRL.out hrest (hy.drop _) (by omega)).mono ?_
            rintro e w2 ⟨rfl, hb2⟩
            rw [HGN.out]
            unfold rgnVal
            have ho1 := own_below ho hb2
            have hbb := hb.trans (hb2.mono hb.size)
            clear ho hb2
            go_wp2_with (at_builtin; refine wpList_app_one _ rfl _ _ 23 rfl w.heap.size 3 (.int .i64 0) 8 Try.underlying23 info_i64 rfl (by decide) _ j _ rfl (ho1.alloc _) w2.heap.size (.int .i64 x) rfl (cell_new _ _ _) rfl (by omega) (by have := hbb.size; simp; omega) ?_)
            intro v' w3 ho2 hb3
            have ho3 := own_conv (n' := j + 1) (ys := i64s (nats (L ++ [x]))) ho2 (by simp [nats, i64s]) rfl
            have hb4 := (hbb.alloc hbb.size _).trans hb3
            clear ho1 ho2 hb3 hbb
            go_wp2_with fail
            go_roundw
            case rel => exact ⟨j + 1, at_ + sz, L ++ [x], by go_num, by go_num, by omega, by omega, by simp [HL.out], ho3, HX.out, hb4⟩
            case measure => simp [intOf]; omega
        · obtain rfl : j = m := by omega
          have i2 : ¬ ((j : Int) < (j : Int)) := by omega
          by_cases hend : at_ = n
          · have hdn : zs.drop at_ = [] := List.drop_eq_nil_of_le (by rw [HZ.out]; omega)
            have hyes : getNums zs = some L := by rw [HF.out, Nat.sub_self, leftN_end, if_pos hdn]
            have HY := Lib.hid hyes
            have e1 : ((at_ : Int) == (n : Int)) = true := by simp; omega
            clear hdn hyes hend
            go_wp2_with fail
            go_ret2
            exact rgotS_some (by rw [HY.out]; rfl) ⟨_, rfl, own_cast ho (by rw [i64s_length, nats_length, HL.out]), hb⟩
          · have hdn : zs.drop at_ ≠ [] := rd_drop_some (by rw [HZ.out]; omega)
            have hno : getNums zs = none := by rw [HF.out, Nat.sub_self, leftN_end, if_neg hdn]
            have HN := Lib.hid hno
            have e1 : ((at_ : Int) == (n : Int)) = false := by simp; omega
            clear hdn hno hend
            go_wp2_with fail
            go_ret2
            exact rgotS_none _ (by obtain ⟨A9, c9, hv9, _⟩ := own_val ho; exact ⟨A9, _, c9, hv9⟩) (by rw [HN.out]; rfl) rfl hb
theorem rgetNums_any (A : Option Addr) (c n : Nat) (zs : List Int) (w : World) (hz : zs.length = n) (hr : Rd w A (u8s zs)) (hy : Byts zs) (hc : n ≤ c) (hcm : c ≤ maxLen) (hn : n ≤ 1048576) :
    Calls Try.prog 52 #[.slice A n c] w (RGot w.heap.size 3 w (numsOf (getNums zs))) :=
  (rgetNums_all A c n zs w hz hr hy hc hcm hn).mono fun _ _ h => h.weak

set_option maxRecDepth 100000 in
set_option maxHeartbeats 4000000 in
theorem rgetPuts_any (A : Option Addr) (c n : Nat) (zs : List Int) (w : World) (hz : zs.length = n) (hr : Rd w A (u8s zs)) (hy : Byts zs) (hc : n ≤ c) (hcm : c ≤ maxLen) (hn : n ≤ 1048576) :
    Calls Try.prog 50 #[.slice A n c] w (RGot w.heap.size 9 w (textsOf (getPuts zs))) := by
  unfold maxLen at hcm
  have HZ := Lib.hid hz
  clear hz
  cases hg : gn 0 0 zs with
  | none =>
    have hno := getPuts_none hg
    have HG := Lib.hid hg
    have HN := Lib.hid hno
    clear hg hno
    go_enter Try.func50, Try.ntmps50
    go_wp2_with fail
    refine (rgetNum_any A c n zs _ HZ.out hr hy (by omega)).mono ?_
    rintro e w' ⟨rfl, hb⟩
    rw [HG.out]
    unfold rgnVal
    go_wp2_with fail
    go_ret2
    exact rgot_none _ (by rw [HN.out]; rfl) rfl hb
  | some p =>
    obtain ⟨m, k⟩ := p
    obtain ⟨_, e0, e1, hm63, hk0, hk, e2⟩ := put_get hy hg
    clear e0 e1 e2
    rw [HZ.out] at hk
    have e3 : ((k : Int) == 0) = false := by simp; omega
    by_cases hover : n < m
    · have hno := (over_none hy hg (by rw [HZ.out]; exact hover)).2
      have HG := Lib.hid hg
      have HN := Lib.hid hno
      clear hg hno
      have i1 : (n : Int) < (m : Int) := by omega
      go_enter Try.func50, Try.ntmps50
      go_wp2_with fail
      refine (rgetNum_any A c n zs _ HZ.out hr hy (by omega)).mono ?_
      rintro e w' ⟨rfl, hb⟩
      rw [HG.out]
      unfold rgnVal
      go_wp2_with fail
      go_ret2
      exact rgot_none _ (by rw [HN.out]; rfl) rfl hb
    · have hst := leftT_start hg
      obtain ⟨b, off, rfl, hbl, hcell⟩ := hr.open_ (by rw [u8s_length, HZ.out]; omega)
      have HG := Lib.hid hg
      have HS := Lib.hid hst
      clear hg hst hcell
      have i1 : ¬ ((n : Int) < (m : Int)) := by omega
      go_enter Try.func50, Try.ntmps50
      go_wp2_with fail
      refine (rgetNum_any _ c n zs _ HZ.out hr hy (by omega)).mono ?_
      rintro e w1 ⟨rfl, hb1⟩
      rw [HG.out]
      unfold rgnVal
      go_wp2_with fail
      go_loopw [5, 6, 7] (fun q v i wr => ∃ (j at_ : Nat) (L : List (List Int)), i = .int .i64 j ∧ q = .int .i64 at_ ∧ j ≤ m ∧ at_ ≤ n ∧ L.length = j ∧ wr.ownsRow w.heap.size 9 1 v j (strs (L.map strOfNums)) ∧ getPuts zs = leftT L (m - j) (zs.drop at_) ∧ Below w.heap.size w wr) (fun _ _ i _ => m - (intOf i).toNat)
      case atStart => exact ⟨0, k, [], rfl, rfl, by omega, hk, rfl, World.ownsRow_nil _ _ _ _, HS.out, hb1⟩
      case round =>
        obtain ⟨j, at_, L, rfl, rfl, hj, hat, hL, ho, hleft, hb⟩ := hrel
        clear hb1
        have HL := Lib.hid hL
        have HF := Lib.hid hleft
        clear hL hleft
        by_cases hlt : j < m
        · have i2 : (j : Int) < (m : Int) := by omega
          obtain ⟨d, hd⟩ : ∃ d, m - j = d + 1 := ⟨m - j - 1, by omega⟩
          have hrest : Rd wr (if c = at_ then some ⟨b, off, none⟩ else (some (⟨b, off, none⟩ : Addr)).map (·.add at_)) (u8s (zs.drop at_)) := by
            have := (hr.below hb).cut (k := at_) (c := c) (by rw [u8s_length, HZ.out]; omega)
            simpa [u8s, List.map_drop] using this
          have hrl : (zs.drop at_).length = n - at_ := by rw [List.length_drop, HZ.out]
          have HRL := Lib.hid hrl
          have HDD := Lib.hid hd
          clear hrl hd
          cases hgn : gn 0 0 (zs.drop at_) with
          | none =>
            have hno : getPuts zs = none := by rw [HF.out, HDD.out, leftT_none hgn]
            have HN := Lib.hid hno
            have HGN := Lib.hid hgn
            clear hno hgn
            by_cases hca : c = at_
            · rw [if_pos hca] at hrest
              go_wp2_with fail
              refine (rgetNum_any _ _ (n - at_) _ _ HRL.out hrest (hy.drop _) (by omega)).mono ?_
              rintro e w2 ⟨rfl, hb2⟩
              rw [HGN.out]
              unfold rgnVal
              go_wp2_with fail
              go_ret2
              exact rgot_none _ (by rw [HN.out]; rfl) rfl (hb.trans (hb2.mono hb.size))
            · rw [if_neg hca, Option.map_some, Addr.add_lit] at hrest
              go_wp2_with fail
              refine (rgetNum_any _ _ (n - at_) _ _ HRL.out hrest (hy.drop _) (by omega)).mono ?_
              rintro e w2 ⟨rfl, hb2⟩
              rw [HGN.out]
              unfold rgnVal
              go_wp2_with fail
              go_ret2
              exact rgot_none _ (by rw [HN.out]; rfl) rfl (hb.trans (hb2.mono hb.size))
          | some p =>
            obtain ⟨x, sz⟩ := p
            obtain ⟨_, e0, e1, hx63, hs0, hsl, e2⟩ := put_get (hy.drop _) hgn
            clear e0 e1 e2
            rw [HRL.out] at hsl
            have e4 : ((sz : Int) == 0) = false := by simp; omega
            have hca : ¬ c = at_ := by omega
            rw [if_neg hca, Option.map_some, Addr.add_lit] at hrest
            by_cases hlong : n - at_ - sz < x
            · have hno : getPuts zs = none := by rw [HF.out, HDD.out, leftT_long hgn (by rw [HRL.out]; exact hlong)]
              have HN := Lib.hid hno
              have HGN := Lib.hid hgn
              clear hno hgn
              have i3 : (n : Int) - (at_ : Int) - (sz : Int) < (x : Int) := by omega
              go_wp2_with fail
              refine (rgetNum_any _ _ (n - at_) _ _ HRL.out hrest (hy.drop _) (by omega)).mono ?_
              rintro e w2 ⟨rfl, hb2⟩
              rw [HGN.out]
              unfold rgnVal
              go_wp2_with fail
              go_ret2
              exact rgot_none _ (by rw [HN.out]; rfl) rfl (hb.trans (hb2.mono hb.size))
            · have hnext : getPuts zs = leftT (L ++ [((zs.drop at_).drop sz).take x]) (m - (j + 1)) (zs.drop (at_ + sz + x)) := by
                have e : (zs.drop at_).drop (sz + x) = zs.drop (at_ + sz + x) := by rw [List.drop_drop]; congr 1; omega
                rw [HF.out, HDD.out, leftT_some hgn (by rw [HRL.out]; omega), e]
                congr 1
                have := HDD.out
                omega
              have HX := Lib.hid hnext
              have HGN := Lib.hid hgn
              clear hnext hgn
              have i3 : ¬ ((n : Int) - (at_ : Int) - (sz : Int) < (x : Int)) := by omega
              have htl : (((zs.drop at_).drop sz).take x).length = x := by rw [List.length_take, List.length_drop, HRL.out]; omega
              obtain ⟨tx, ht⟩ : ∃ tx, tx = ((zs.drop at_).drop sz).take x := ⟨_, rfl⟩
              rw [← ht] at htl
              have HCL : Hid (∀ w2, Below w.heap.size w w2 → ∀ i, i < x → w2.cell? ⟨b, off + (at_ + sz) + i, none⟩ = some (.int .u8 (tx.getD i 0))) := by
                intro w2 hb2 i hi
                have h1 := (hr.below hb2).open_ (by rw [u8s_length, HZ.out]; omega)
                obtain ⟨b', off', hA, _, hcl⟩ := h1
                cases hA
                have h2 := hcl (at_ + sz + i) _ (u8s_at (by rw [HZ.out]; omega))
                rw [show off + (at_ + sz) + i = off + (at_ + sz + i) by omega, h2, ht]
                congr 2
                rw [List.getD_eq_getElem?_getD, List.getElem?_take_of_lt hi, List.getElem?_drop, List.getElem?_drop]
                congr 2
                omega
              have HT := Lib.hid ht
              have HTL := Lib.hid htl
              clear ht htl
              by_cases hcap : c = at_ + sz
              · have hx0 : x ≤ 0 := by omega
                subst hcap
                have HC0 : Hid (∀ (w2 : World) (l : Nat), (convert 28 9 (.slice (some ⟨b, off, none⟩) x l)).run Try.prog w2 = .ok (.string (strOfNums tx)) w2) :=
                  fun w2 l => run_convert_bytes_arg (P := Try.prog) w2 28 5 Try.underlying28 Try.underlying5 b off x l tx HTL.out (fun i hi => absurd hi (by omega)) 9 Try.underlying9
                go_wp2_with fail
                refine (rgetNum_any _ _ (n - at_) _ _ HRL.out hrest (hy.drop _) (by omega)).mono ?_
                rintro e w2 ⟨rfl, hb2⟩
                rw [HGN.out]
                unfold rgnVal
                have ho1 := own_below ho hb2
                have hbb := hb.trans (hb2.mono hb.size)
                have hconv := fun (l : Nat) => run_convert_bytes_arg (P := Try.prog) w2 28 5 Try.underlying28 Try.underlying5 b (off + (at_ + sz)) x l tx HTL.out (HCL.out w2 hbb) 9 Try.underlying9
                have hconv0 := HC0.out w2
                clear ho hb2
                go_wp2_with (at_builtin; refine wpList_app_one _ rfl _ _ 68 rfl w.heap.size 9 (.string ByteArray.empty) 16 Try.underlying68 info_str rfl (by decide) _ j _ rfl (ho1.alloc _) w2.heap.size (.string (strOfNums tx)) rfl (cell_new _ _ _) rfl (by omega) (by have := hbb.size; simp; omega) ?_)
                intro v' w3 ho2 hb3
                have ho3 := own_conv (n' := j + 1) (ys := strs ((L ++ [((zs.drop at_).drop sz).take x]).map strOfNums)) ho2 (by rw [List.map_append, strs_append, ← HT.out]; rfl) rfl
                have hb4 := (hbb.alloc hbb.size _).trans hb3
                clear ho1 ho2 hb3 hbb
                go_wp2_with fail
                go_roundw
                case rel => exact ⟨j + 1, at_ + sz + x, L ++ [((zs.drop at_).drop sz).take x], by go_num, by go_num, by omega, by omega, by simp [HL.out], ho3, HX.out, hb4⟩
                case measure => simp [intOf]; omega
              · have HC0 : Hid (∀ (w2 : World), True) := fun _ => trivial
                go_wp2_with fail
                refine (rgetNum_any _ _ (n - at_) _ _ HRL.out hrest (hy.drop _) (by omega)).mono ?_
                rintro e w2 ⟨rfl, hb2⟩
                rw [HGN.out]
                unfold rgnVal
                have ho1 := own_below ho hb2
                have hbb := hb.trans (hb2.mono hb.size)
                have hconv := fun (l : Nat) => run_convert_bytes_arg (P := Try.prog) w2 28 5 Try.underlying28 Try.underlying5 b (off + (at_ + sz)) x l tx HTL.out (HCL.out w2 hbb) 9 Try.underlying9
                have hconv0 := HC0.out w2
                clear ho hb2
                go_wp2_with (at_builtin; refine wpList_app_one _ rfl _ _ 68 rfl w.heap.size 9 (.string ByteArray.empty) 16 Try.underlying68 info_str rfl (by decide) _ j _ rfl (ho1.alloc _) w2.heap.size (.string (strOfNums tx)) rfl (cell_new _ _ _) rfl (by omega) (by have := hbb.size; simp; omega) ?_)
                intro v' w3 ho2 hb3
                have ho3 := own_conv (n' := j + 1) (ys := strs ((L ++ [((zs.drop at_).drop sz).take x]).map strOfNums)) ho2 (by rw [List.map_append, strs_append, ← HT.out]; rfl) rfl
                have hb4 := (hbb.alloc hbb.size _).trans hb3
                clear ho1 ho2 hb3 hbb
                go_wp2_with fail
                go_roundw
                case rel => exact ⟨j + 1, at_ + sz + x, L ++ [((zs.drop at_).drop sz).take x], by go_num, by go_num, by omega, by omega, by simp [HL.out], ho3, HX.out, hb4⟩
                case measure => simp [intOf]; omega
        · obtain rfl : j = m := by omega
          have i2 : ¬ ((j : Int) < (j : Int)) := by omega
          by_cases hend : at_ = n
          · have hdn : zs.drop at_ = [] := List.drop_eq_nil_of_le (by rw [HZ.out]; omega)
            have hyes : getPuts zs = some L := by rw [HF.out, Nat.sub_self, leftT_end, if_pos hdn]
            have HY := Lib.hid hyes
            have e1 : ((at_ : Int) == (n : Int)) = true := by simp; omega
            clear hdn hyes hend
            go_wp2_with fail
            go_ret2
            exact rgot_some (by rw [HY.out]; rfl) ⟨_, rfl, own_cast ho (by rw [strs_length, List.length_map, HL.out]), hb⟩
          · have hdn : zs.drop at_ ≠ [] := rd_drop_some (by rw [HZ.out]; omega)
            have hno : getPuts zs = none := by rw [HF.out, Nat.sub_self, leftT_end, if_neg hdn]
            have HN := Lib.hid hno
            have e1 : ((at_ : Int) == (n : Int)) = false := by simp; omega
            clear hdn hno hend
            go_wp2_with fail
            go_ret2
            exact rgot_none _ (by rw [HN.out]; rfl) rfl hb

end Go.Proofs.Ytkgbnohmhjljoaa
