/-
  The walks of package wire that read lists.
-/
import Derived.Test.YtafkcofocjellaaLists
namespace Go.Proofs.Ytafkcofocjellaa
open Go.RowKit

/-! ### on lists -/
theorem rdNums_long {c : Nat} {b : List Int} (hb : Byts b) (h : b.length < c) : rdNums c b = none := by
  cases hr : rdNums c b with
  | none => rfl
  | some q =>
    obtain ⟨l, r⟩ := q
    have := (rdNums_get c b l r hb hr).2.2.1
    omega
theorem rdPuts_over {c : Nat} {b : List Int} (hb : Byts b) (h : b.length < c) : rdPuts c b = none := by
  cases hr : rdPuts c b with
  | none => rfl
  | some q =>
    obtain ⟨l, r⟩ := q
    have := (rdPuts_get c b l r hb hr).2.2.1
    omega
/-- what is left to be read, behind what has been read -/
def leftN (L : List Nat) (c : Nat) (b : List Int) : Option (List Nat) := (rdNums c b).bind fun q => if q.2 = [] then some (L ++ q.1) else none
def leftT (L : List (List Int)) (c : Nat) (b : List Int) : Option (List (List Int)) := (rdPuts c b).bind fun q => if q.2 = [] then some (L ++ q.1) else none
theorem leftN_start {zs : List Int} {m k : Nat} (h : gn 0 0 zs = some (m, k)) : getNums zs = leftN [] m (zs.drop k) := by
  unfold getNums leftN; rw [h]; simp
theorem leftT_start {zs : List Int} {m k : Nat} (h : gn 0 0 zs = some (m, k)) : getPuts zs = leftT [] m (zs.drop k) := by
  unfold getPuts leftT; rw [h]; simp
theorem getNums_none {zs : List Int} (h : gn 0 0 zs = none) : getNums zs = none := by unfold getNums; rw [h]; rfl
theorem getPuts_none {zs : List Int} (h : gn 0 0 zs = none) : getPuts zs = none := by unfold getPuts; rw [h]; rfl
theorem leftN_end (L : List Nat) (b : List Int) : leftN L 0 b = if b = [] then some L else none := by simp [leftN, rdNums]
theorem leftT_end (L : List (List Int)) (b : List Int) : leftT L 0 b = if b = [] then some L else none := by simp [leftT, rdPuts]
theorem leftN_none {L : List Nat} {c : Nat} {b : List Int} (h : gn 0 0 b = none) : leftN L (c + 1) b = none := by unfold leftN; rw [rdNums_none h]; rfl
theorem leftT_none {L : List (List Int)} {c : Nat} {b : List Int} (h : gn 0 0 b = none) : leftT L (c + 1) b = none := by unfold leftT; rw [rdPuts_none h]; rfl
theorem leftT_long {L : List (List Int)} {c m k : Nat} {b : List Int} (h : gn 0 0 b = some (m, k)) (hl : b.length - k < m) : leftT L (c + 1) b = none := by unfold leftT; rw [rdPuts_long h hl]; rfl
theorem leftN_some {L : List Nat} {c m k : Nat} {b : List Int} (h : gn 0 0 b = some (m, k)) : leftN L (c + 1) b = leftN (L ++ [m]) c (b.drop k) := by
  unfold leftN; rw [rdNums_some h]
  cases rdNums c (b.drop k) <;> simp
theorem leftT_some {L : List (List Int)} {c m k : Nat} {b : List Int} (h : gn 0 0 b = some (m, k)) (hl : m ≤ b.length - k) : leftT L (c + 1) b = leftT (L ++ [(b.drop k).take m]) c (b.drop (k + m)) := by
  unfold leftT; rw [rdPuts_some h hl]
  cases rdPuts c (b.drop (k + m)) <;> simp
theorem leftN_over {L : List Nat} {c : Nat} {b : List Int} (hb : Byts b) (h : b.length < c) : leftN L c b = none := by unfold leftN; rw [rdNums_long hb h]; rfl
theorem leftT_over {L : List (List Int)} {c : Nat} {b : List Int} (hb : Byts b) (h : b.length < c) : leftT L c b = none := by unfold leftT; rw [rdPuts_over hb h]; rfl

/-- the list that a text of bytes is, and back -/
theorem byt_of {xs : List Int} (h : Byts xs) : byt (strOfNums xs) = xs := by
  unfold byt
  rw [strOfNums_data, List.map_map]
  conv => rhs; rw [← List.map_id xs]
  apply List.map_congr_left
  intro x hx
  have := h x hx
  unfold Byt at this
  simp only [Function.comp, id]
  rw [UInt8.toNat_ofNat']
  omega
theorem strOfNums_byt (s : ByteArray) : strOfNums (byt s) = s := by
  apply byt_inj
  exact byt_of (by
    intro x hx
    unfold byt at hx
    obtain ⟨b, _, rfl⟩ := List.mem_map.1 hx
    have := UInt8.toNat_lt b
    exact ⟨by omega, by omega⟩)
theorem byt_byts (s : ByteArray) : Byts (byt s) := by
  intro x hx
  unfold byt at hx
  obtain ⟨b, _, rfl⟩ := List.mem_map.1 hx
  have := UInt8.toNat_lt b
  exact ⟨by omega, by omega⟩

/-! ### getCount -/
/-- the count that bytes begin with, if there may be so many elements -/
def gc (zs : List Int) : Option (Nat × Nat) := (gn 0 0 zs).bind fun p => if zs.length - p.2 < p.1 then none else some p
theorem gc_some {zs : List Int} {m k : Nat} (hb : Byts zs) (h : gc zs = some (m, k)) : gn 0 0 zs = some (m, k) ∧ m ≤ zs.length - k ∧ k ≤ zs.length := by
  unfold gc at h
  cases hg : gn 0 0 zs with
  | none => rw [hg] at h; cases h
  | some p =>
    obtain ⟨m', k'⟩ := p
    rw [hg] at h
    simp only [Option.bind_some] at h
    split at h
    · cases h
    · simp only [Option.some.injEq, Prod.mk.injEq] at h
      obtain ⟨rfl, rfl⟩ := h
      obtain ⟨_, _, _, _, _, hk, _⟩ := put_get hb hg
      exact ⟨rfl, by omega, hk⟩
theorem gc_none_nums {zs : List Int} (hb : Byts zs) (h : gc zs = none) : getNums zs = none ∧ getPuts zs = none := by
  unfold gc at h
  cases hg : gn 0 0 zs with
  | none => exact ⟨getNums_none hg, getPuts_none hg⟩
  | some p =>
    obtain ⟨m, k⟩ := p
    rw [hg] at h
    simp only [Option.bind_some] at h
    split at h
    · rw [leftN_start hg, leftT_start hg]
      exact ⟨leftN_over (hb.drop k) (by simp; omega), leftT_over (hb.drop k) (by simp; omega)⟩
    · cases h

set_option maxHeartbeats 1000000 in
theorem getCount_any (A : Option Addr) (c n : Nat) (zs : List Int) (w : World) (hz : zs.length = n) (hr : Rd w A (u8s zs)) (hy : Byts zs) (hn : n ≤ 1048576) :
    Calls Try.prog 91 #[.slice A n c] w fun e w' => e = .returned (gnVal (gc zs)) ∧ w = w' := by
  cases hg : gn 0 0 zs with
  | none =>
    have hgc : gc zs = none := by unfold gc; rw [hg]; rfl
    have HG := Lib.hid hg
    have HC := Lib.hid hgc
    have HZ := Lib.hid hz
    clear hg hgc hz
    go_enter Try.func91, Try.ntmps91
    go_wp2_with fail
    refine (getNum_any A c n zs _ HZ.out hr hy (by omega)).mono ?_
    rintro e w' ⟨rfl, rfl⟩
    rw [HG.out]
    unfold gnVal
    go_wp2_with fail
    go_ret3
    exact ⟨by rw [HC.out]; rfl, rfl⟩
  | some p =>
    obtain ⟨m, k⟩ := p
    obtain ⟨_, e0, e1, hm63, hk0, hk, e2⟩ := put_get hy hg
    clear e0 e1 e2
    rw [hz] at hk
    by_cases hlong : n - k < m
    · have hgc : gc zs = none := by unfold gc; rw [hg, hz]; simp [hlong]
      have HG := Lib.hid hg
      have HC := Lib.hid hgc
      have HZ := Lib.hid hz
      clear hg hgc hz
      have i1 : (n : Int) - (k : Int) < (m : Int) := by omega
      go_enter Try.func91, Try.ntmps91
      go_wp2_with fail
      refine (getNum_any A c n zs _ HZ.out hr hy (by omega)).mono ?_
      rintro e w' ⟨rfl, rfl⟩
      rw [HG.out]
      unfold gnVal
      go_wp2_with fail
      go_ret3
      exact ⟨by rw [HC.out]; rfl, rfl⟩
    · have hgc : gc zs = some (m, k) := by unfold gc; rw [hg, hz]; simp [hlong]
      have HG := Lib.hid hg
      have HC := Lib.hid hgc
      have HZ := Lib.hid hz
      clear hg hgc hz
      have i1 : ¬ ((n : Int) - (k : Int) < (m : Int)) := by omega
      go_enter Try.func91, Try.ntmps91
      go_wp2_with fail
      refine (getNum_any A c n zs _ HZ.out hr hy (by omega)).mono ?_
      rintro e w' ⟨rfl, rfl⟩
      rw [HG.out]
      unfold gnVal
      go_wp2_with fail
      go_ret3
      exact ⟨by rw [HC.out]; rfl, rfl⟩

/-! ### GetNums, Get -/
/-- a list that was read, or none -/
def Got (B : Nat) (e : TypeId) (w : World) (r : Option (List Value)) (en : Ending) (w' : World) : Prop :=
  match r with
  | some xs => Made2 B e w xs (.int .i64 0) en w'
  | none => en = .returned (.tuple #[.slice none 0 0, .int .i64 1]) ∧ Below B w w'
theorem got_some {B : Nat} {e : TypeId} {w w' : World} {r : Option (List Value)} {xs : List Value} {en : Ending} (h : r = some xs) (k : Made2 B e w xs (.int .i64 0) en w') : Got B e w r en w' := by rw [h]; exact k
theorem got_none {B : Nat} {e : TypeId} {w w' : World} {r : Option (List Value)} {en : Ending} (h : r = none) (k : en = .returned (.tuple #[.slice none 0 0, .int .i64 1])) (hb : Below B w w') : Got B e w r en w' := by rw [h]; exact ⟨k, hb⟩

/-- what holds at the label -/
def Wrong47 (p : Prop) (w : World) (a' : Act) (w' : World) : Prop :=
  p ∧ Below w.heap.size w w' ∧ ∃ u0 u1 u2 u3 u4 u5 u6 u7 u8 u9 u10 u11 u12 u13 u14 u15 u16 u17 u18 u19 u20 u21 u22 u23 u24 u25 u26 u27 u28 u29 u30 u31 u32 u33 u34 u35 u36 u37 u38 u39 u40 u41 u42 u43 u44 u45 u46 : Value, a' = { tmps := #[u0, u1, u2, u3, u4, u5, u6, u7, u8, u9, u10, u11, u12, u13, u14, u15, u16, u17, u18, u19, u20, u21, u22, u23, u24, u25, u26, u27, u28, u29, u30, u31, u32, u33, u34, u35, u36, u37, u38, u39, u40, u41, u42, u43, u44, u45, u46], defers := [] }
def Wrong64 (p : Prop) (w : World) (a' : Act) (w' : World) : Prop :=
  p ∧ Below w.heap.size w w' ∧ ∃ u0 u1 u2 u3 u4 u5 u6 u7 u8 u9 u10 u11 u12 u13 u14 u15 u16 u17 u18 u19 u20 u21 u22 u23 u24 u25 u26 u27 u28 u29 u30 u31 u32 u33 u34 u35 u36 u37 u38 u39 u40 u41 u42 u43 u44 u45 u46 u47 u48 u49 u50 u51 u52 u53 u54 u55 u56 u57 u58 u59 u60 u61 u62 u63 : Value, a' = { tmps := #[u0, u1, u2, u3, u4, u5, u6, u7, u8, u9, u10, u11, u12, u13, u14, u15, u16, u17, u18, u19, u20, u21, u22, u23, u24, u25, u26, u27, u28, u29, u30, u31, u32, u33, u34, u35, u36, u37, u38, u39, u40, u41, u42, u43, u44, u45, u46, u47, u48, u49, u50, u51, u52, u53, u54, u55, u56, u57, u58, u59, u60, u61, u62, u63], defers := [] }

/-- numbers that were read -/
def numsOf (r : Option (List Nat)) : Option (List Value) := r.map fun l => i64s (nats l)
def textsOf (r : Option (List (List Int))) : Option (List Value) := r.map fun l => strs (l.map strOfNums)

set_option maxRecDepth 100000 in
set_option maxHeartbeats 2000000 in
theorem getNums_any (A : Option Addr) (c n : Nat) (zs : List Int) (w : World) (hz : zs.length = n) (hr : Rd w A (u8s zs)) (hy : Byts zs) (hc : n ≤ c) (hcm : c ≤ maxLen) (hn : n ≤ 1048576) :
    Calls Try.prog 86 #[.slice A n c] w (Got w.heap.size 3 w (numsOf (getNums zs))) := by
  unfold maxLen at hcm
  have HZ := Lib.hid hz
  clear hz
  cases hg : gc zs with
  | none =>
    have hno := (gc_none_nums hy hg).1
    have HG := Lib.hid hg
    have HN := Lib.hid hno
    clear hg hno
    go_enter Try.func86, Try.ntmps86
    go_wp2_with fail
    refine wp_scope_jumps 0 (Wrong47 (getNums zs = none) w) (fun _ _ => 0) rfl ?_ ?_
    · go_wp2_with fail
      refine (getCount_any A c n zs _ HZ.out hr hy hn).mono ?_
      rintro e w' ⟨rfl, rfl⟩
      rw [HG.out]
      unfold gnVal
      go_wp2_with fail
      go_step3
      show 0 = 0 ∧ Wrong47 (getNums zs = none) w _ _
      exact ⟨rfl, HN.out, Below.refl _ _, _, _, _, _, _, _, _, _, _, _, _, _, _, _, _, _, _, _, _, _, _, _, _, _, _, _, _, _, _, _, _, _, _, _, _, _, _, _, _, _, _, _, _, _, _, _, _, rfl⟩
    · rintro a' w' ⟨hnone, hb, u0, u1, u2, u3, u4, u5, u6, u7, u8, u9, u10, u11, u12, u13, u14, u15, u16, u17, u18, u19, u20, u21, u22, u23, u24, u25, u26, u27, u28, u29, u30, u31, u32, u33, u34, u35, u36, u37, u38, u39, u40, u41, u42, u43, u44, u45, u46, rfl⟩
      have HN := Lib.hid hnone
      clear hnone
      go_wp2_with fail
      simp only [Exit.jump]
      go_ret2
      exact got_none (by rw [HN.out]; rfl) rfl hb
  | some p =>
    obtain ⟨m, k⟩ := p
    obtain ⟨hg1, hm, hk⟩ := gc_some hy hg
    rw [HZ.out] at hm hk
    have hst := leftN_start hg1
    obtain ⟨b, off, rfl, hbl, hcell⟩ := hr.open_ (by
      rw [u8s_length, HZ.out]
      obtain ⟨_, _, _, _, h0, h1, _⟩ := put_get hy hg1
      rw [HZ.out] at h1
      omega)
    have HG := Lib.hid hg
    have HS := Lib.hid hst
    clear hg hg1 hst hcell
    go_enter Try.func86, Try.ntmps86
    go_wp2_with fail
    refine wp_scope_jumps 0 (Wrong47 (getNums zs = none) w) (fun _ _ => 0) rfl ?_ ?_
    · go_wp2_with fail
      refine (getCount_any _ c n zs _ HZ.out hr hy hn).mono ?_
      rintro e w' ⟨rfl, rfl⟩
      rw [HG.out]
      unfold gnVal
      go_wp2_with (at_make; refine wpList_make_room _ rfl _ _ 26 rfl w.heap.size 3 (.int .i64 0) 8 Try.underlying26 info_i64 (by decide) m rfl rfl (by omega) (Nat.le_refl _) ?_)
      intro v w1 hown hb1
      go_wp2_with fail
      go_loopw [4, 6, 22] (fun v q i wr => ∃ (j at_ : Nat) (L : List Nat), i = .int .i64 j ∧ q = .int .i64 at_ ∧ j ≤ m ∧ at_ ≤ n ∧ L.length = j ∧ wr.ownsRow w.heap.size 3 1 v j (i64s (nats L)) ∧ getNums zs = leftN L (m - j) (zs.drop at_) ∧ Below w.heap.size w wr) (fun _ _ i _ => m - (intOf i).toNat)
      case atStart => exact ⟨0, k, [], rfl, rfl, by omega, hk, rfl, hown, HS.out, hb1⟩
      case round =>
        obtain ⟨j, at_, L, rfl, rfl, hj, hat, hL, ho, hleft, hb⟩ := hrel
        clear hown hb1
        have HL := Lib.hid hL
        have HF := Lib.hid hleft
        clear hL hleft
        by_cases hlt : j < m
        · have i1 : (j : Int) < (m : Int) := by omega
          obtain ⟨d, hd⟩ : ∃ d, m - j = d + 1 := ⟨m - j - 1, by omega⟩
          have hrest : Rd wr (if c = at_ then some ⟨b, off, none⟩ else (some (⟨b, off, none⟩ : Addr)).map (·.add at_)) (u8s (zs.drop at_)) := by
            have := (hr.below hb).cut (k := at_) (c := c) (by rw [u8s_length, HZ.out]; omega)
            simpa [u8s, List.map_drop] using this
          have hrl : (zs.drop at_).length = n - at_ := by rw [List.length_drop, HZ.out]
          have HRL := Lib.hid hrl
          have HDD := Lib.hid hd
          clear hrl hd
          cases hgn : gn 0 0 (zs.drop at_) with
          | none =>
            have hno : getNums zs = none := by rw [HF.out, HDD.out, leftN_none hgn]
            have HN := Lib.hid hno
            have HGN := Lib.hid hgn
            clear hno hgn
            by_cases hca : c = at_
            · rw [if_pos hca] at hrest
              go_wp2_with fail
              refine (getNum_any _ _ (n - at_) _ _ HRL.out hrest (hy.drop _) (by omega)).mono ?_
              rintro e w' ⟨rfl, rfl⟩
              rw [HGN.out]
              unfold gnVal
              go_wp2_with fail
              go_step3
              show 0 = 0 ∧ Wrong47 (getNums zs = none) w _ _
              exact ⟨rfl, HN.out, hb, _, _, _, _, _, _, _, _, _, _, _, _, _, _, _, _, _, _, _, _, _, _, _, _, _, _, _, _, _, _, _, _, _, _, _, _, _, _, _, _, _, _, _, _, _, _, _, rfl⟩
            · rw [if_neg hca, Option.map_some, Addr.add_lit] at hrest
              go_wp2_with fail
              refine (getNum_any _ _ (n - at_) _ _ HRL.out hrest (hy.drop _) (by omega)).mono ?_
              rintro e w' ⟨rfl, rfl⟩
              rw [HGN.out]
              unfold gnVal
              go_wp2_with fail
              go_step3
              show 0 = 0 ∧ Wrong47 (getNums zs = none) w _ _
              exact ⟨rfl, HN.out, hb, _, _, _, _, _, _, _, _, _, _, _, _, _, _, _, _, _, _, _, _, _, _, _, _, _, _, _, _, _, _, _, _, _, _, _, _, _, _, _, _, _, _, _, _, _, _, _, rfl⟩
          | some p =>
            obtain ⟨x, sz⟩ := p
            obtain ⟨_, e0, e1, hx63, hs0, hsl, e2⟩ := put_get (hy.drop _) hgn
            clear e0 e1 e2
            rw [HRL.out] at hsl
            have hca : ¬ c = at_ := by omega
            have hnext : getNums zs = leftN (L ++ [x]) (m - (j + 1)) (zs.drop (at_ + sz)) := by
              rw [HF.out, HDD.out, leftN_some hgn, List.drop_drop]
              congr 1
              have := HDD.out
              omega
            have HX := Lib.hid hnext
            have HGN := Lib.hid hgn
            clear hnext hgn
            rw [if_neg hca, Option.map_some, Addr.add_lit] at hrest
            go_wp2_with fail
            refine (getNum_any _ _ (n - at_) _ _ HRL.out hrest (hy.drop _) (by omega)).mono ?_
            rintro e w' ⟨rfl, rfl⟩
            rw [HGN.out]
            unfold gnVal
            go_wp2_with (at_builtin; refine wpList_app_one _ rfl _ _ 26 rfl w.heap.size 3 (.int .i64 0) 8 Try.underlying26 info_i64 rfl (by decide) _ j _ rfl (ho.alloc _) wr.heap.size (.int .i64 x) rfl (cell_new _ _ _) rfl (by omega) (by have := hb.size; simp; omega) ?_)
            intro v' w2 ho2 hb2
            have ho3 := own_conv (n' := j + 1) (ys := i64s (nats (L ++ [x]))) ho2 (by simp [nats, i64s]) rfl
            have hb3 := (hb.alloc hb.size _).trans hb2
            clear ho ho2 hb2
            go_wp2_with fail
            go_roundw
            case rel => exact ⟨j + 1, at_ + sz, L ++ [x], by go_num, by go_num, by omega, by omega, by simp [HL.out], ho3, HX.out, hb3⟩
            case measure => simp [intOf]; omega
        · obtain rfl : j = m := by omega
          have i1 : ¬ ((j : Int) < (j : Int)) := by omega
          by_cases hend : at_ = n
          · have hdn : zs.drop at_ = [] := List.drop_eq_nil_of_le (by rw [HZ.out]; omega)
            have hyes : getNums zs = some L := by rw [HF.out, Nat.sub_self, leftN_end, if_pos hdn]
            have HY := Lib.hid hyes
            have e1 : ((at_ : Int) == (n : Int)) = true := by simp; omega
            clear hdn hyes hend
            go_wp2_with fail
            simp only [Exit.jump]
            go_ret2
            exact got_some (by rw [HY.out]; rfl) ⟨_, rfl, own_cast ho (by rw [i64s_length, nats_length, HL.out]), hb⟩
          · have hdn : zs.drop at_ ≠ [] := rd_drop_some (by rw [HZ.out]; omega)
            have hno : getNums zs = none := by rw [HF.out, Nat.sub_self, leftN_end, if_neg hdn]
            have HN := Lib.hid hno
            have e1 : ((at_ : Int) == (n : Int)) = false := by simp; omega
            clear hdn hno hend
            go_wp2_with fail
            go_step3
            go_wp2_with fail
            simp only [Exit.jump]
            go_ret2
            exact got_none (by rw [HN.out]; rfl) rfl hb
    · rintro a' w' ⟨hnone, hb, u0, u1, u2, u3, u4, u5, u6, u7, u8, u9, u10, u11, u12, u13, u14, u15, u16, u17, u18, u19, u20, u21, u22, u23, u24, u25, u26, u27, u28, u29, u30, u31, u32, u33, u34, u35, u36, u37, u38, u39, u40, u41, u42, u43, u44, u45, u46, rfl⟩
      have HN := Lib.hid hnone
      clear hnone
      go_wp2_with fail
      simp only [Exit.jump]
      go_ret2
      exact got_none (by rw [HN.out]; rfl) rfl hb

set_option maxRecDepth 100000 in
set_option maxHeartbeats 4000000 in
theorem getPuts_any (A : Option Addr) (c n : Nat) (zs : List Int) (w : World) (hz : zs.length = n) (hr : Rd w A (u8s zs)) (hy : Byts zs) (hc : n ≤ c) (hcm : c ≤ maxLen) (hn : n ≤ 1048576) :
    Calls Try.prog 82 #[.slice A n c] w (Got w.heap.size 9 w (textsOf (getPuts zs))) := by
  unfold maxLen at hcm
  have HZ := Lib.hid hz
  clear hz
  cases hg : gc zs with
  | none =>
    have hno := (gc_none_nums hy hg).2
    have HG := Lib.hid hg
    have HN := Lib.hid hno
    clear hg hno
    go_enter Try.func82, Try.ntmps82
    go_wp2_with fail
    refine wp_scope_jumps 0 (Wrong64 (getPuts zs = none) w) (fun _ _ => 0) rfl ?_ ?_
    · go_wp2_with fail
      refine (getCount_any A c n zs _ HZ.out hr hy hn).mono ?_
      rintro e w' ⟨rfl, rfl⟩
      rw [HG.out]
      unfold gnVal
      go_wp2_with fail
      go_step3
      show 0 = 0 ∧ Wrong64 (getPuts zs = none) w _ _
      exact ⟨rfl, HN.out, Below.refl _ _, _, _, _, _, _, _, _, _, _, _, _, _, _, _, _, _, _, _, _, _, _, _, _, _, _, _, _, _, _, _, _, _, _, _, _, _, _, _, _, _, _, _, _, _, _, _, _, _, _, _, _, _, _, _, _, _, _, _, _, _, _, _, _, _, rfl⟩
    · rintro a' w' ⟨hnone, hb, u0, u1, u2, u3, u4, u5, u6, u7, u8, u9, u10, u11, u12, u13, u14, u15, u16, u17, u18, u19, u20, u21, u22, u23, u24, u25, u26, u27, u28, u29, u30, u31, u32, u33, u34, u35, u36, u37, u38, u39, u40, u41, u42, u43, u44, u45, u46, u47, u48, u49, u50, u51, u52, u53, u54, u55, u56, u57, u58, u59, u60, u61, u62, u63, rfl⟩
      have HN := Lib.hid hnone
      clear hnone
      go_wp2_with fail
      simp only [Exit.jump]
      go_ret2
      exact got_none (by rw [HN.out]; rfl) rfl hb
  | some p =>
    obtain ⟨m, k⟩ := p
    obtain ⟨hg1, hm, hk⟩ := gc_some hy hg
    rw [HZ.out] at hm hk
    have hst := leftT_start hg1
    obtain ⟨b, off, rfl, hbl, hcell⟩ := hr.open_ (by
      rw [u8s_length, HZ.out]
      obtain ⟨_, _, _, _, h0, h1, _⟩ := put_get hy hg1
      rw [HZ.out] at h1
      omega)
    have HG := Lib.hid hg
    have HS := Lib.hid hst
    clear hg hg1 hst hcell
    go_enter Try.func82, Try.ntmps82
    go_wp2_with fail
    refine wp_scope_jumps 0 (Wrong64 (getPuts zs = none) w) (fun _ _ => 0) rfl ?_ ?_
    · go_wp2_with fail
      refine (getCount_any _ c n zs _ HZ.out hr hy hn).mono ?_
      rintro e w' ⟨rfl, rfl⟩
      rw [HG.out]
      unfold gnVal
      go_wp2_with (at_make; refine wpList_make_room _ rfl _ _ 94 rfl w.heap.size 9 (.string ByteArray.empty) 16 Try.underlying94 info_str (by decide) m rfl rfl (by omega) (Nat.le_refl _) ?_)
      intro v w1 hown hb1
      go_wp2_with fail
      go_loopw [4, 6, 22] (fun v q i wr => ∃ (j at_ : Nat) (L : List (List Int)), i = .int .i64 j ∧ q = .int .i64 at_ ∧ j ≤ m ∧ at_ ≤ n ∧ L.length = j ∧ wr.ownsRow w.heap.size 9 1 v j (strs (L.map strOfNums)) ∧ getPuts zs = leftT L (m - j) (zs.drop at_) ∧ Below w.heap.size w wr) (fun _ _ i _ => m - (intOf i).toNat)
      case atStart => exact ⟨0, k, [], rfl, rfl, by omega, hk, rfl, hown, HS.out, hb1⟩
      case round =>
        obtain ⟨j, at_, L, rfl, rfl, hj, hat, hL, ho, hleft, hb⟩ := hrel
        clear hown hb1
        have HL := Lib.hid hL
        have HF := Lib.hid hleft
        clear hL hleft
        by_cases hlt : j < m
        · have i1 : (j : Int) < (m : Int) := by omega
          obtain ⟨d, hd⟩ : ∃ d, m - j = d + 1 := ⟨m - j - 1, by omega⟩
          have hrest : Rd wr (if c = at_ then some ⟨b, off, none⟩ else (some (⟨b, off, none⟩ : Addr)).map (·.add at_)) (u8s (zs.drop at_)) := by
            have := (hr.below hb).cut (k := at_) (c := c) (by rw [u8s_length, HZ.out]; omega)
            simpa [u8s, List.map_drop] using this
          have hrl : (zs.drop at_).length = n - at_ := by rw [List.length_drop, HZ.out]
          have HRL := Lib.hid hrl
          have HDD := Lib.hid hd
          clear hrl hd
          cases hgn : gn 0 0 (zs.drop at_) with
          | none =>
            have hno : getPuts zs = none := by rw [HF.out, HDD.out, leftT_none hgn]
            have HN := Lib.hid hno
            have HGN := Lib.hid hgn
            clear hno hgn
            by_cases hca : c = at_
            · rw [if_pos hca] at hrest
              go_wp2_with fail
              refine (getNum_any _ _ (n - at_) _ _ HRL.out hrest (hy.drop _) (by omega)).mono ?_
              rintro e w' ⟨rfl, rfl⟩
              rw [HGN.out]
              unfold gnVal
              go_wp2_with fail
              go_step3
              show 0 = 0 ∧ Wrong64 (getPuts zs = none) w _ _
              exact ⟨rfl, HN.out, hb, _, _, _, _, _, _, _, _, _, _, _, _, _, _, _, _, _, _, _, _, _, _, _, _, _, _, _, _, _, _, _, _, _, _, _, _, _, _, _, _, _, _, _, _, _, _, _, _, _, _, _, _, _, _, _, _, _, _, _, _, _, _, _, _, rfl⟩
            · rw [if_neg hca, Option.map_some, Addr.add_lit] at hrest
              go_wp2_with fail
              refine (getNum_any _ _ (n - at_) _ _ HRL.out hrest (hy.drop _) (by omega)).mono ?_
              rintro e w' ⟨rfl, rfl⟩
              rw [HGN.out]
              unfold gnVal
              go_wp2_with fail
              go_step3
              show 0 = 0 ∧ Wrong64 (getPuts zs = none) w _ _
              exact ⟨rfl, HN.out, hb, _, _, _, _, _, _, _, _, _, _, _, _, _, _, _, _, _, _, _, _, _, _, _, _, _, _, _, _, _, _, _, _, _, _, _, _, _, _, _, _, _, _, _, _, _, _, _, _, _, _, _, _, _, _, _, _, _, _, _, _, _, _, _, _, rfl⟩
          | some p =>
            obtain ⟨x, sz⟩ := p
            obtain ⟨_, e0, e1, hx63, hs0, hsl, e2⟩ := put_get (hy.drop _) hgn
            clear e0 e1 e2
            rw [HRL.out] at hsl
            have hca : ¬ c = at_ := by omega
            rw [if_neg hca, Option.map_some, Addr.add_lit] at hrest
            by_cases hlong : n - at_ - sz < x
            · have hno : getPuts zs = none := by rw [HF.out, HDD.out, leftT_long hgn (by rw [HRL.out]; exact hlong)]
              have HN := Lib.hid hno
              have HGN := Lib.hid hgn
              clear hno hgn
              have i2 : (n : Int) - ((at_ : Int) + (sz : Int)) < (x : Int) := by omega
              go_wp2_with fail
              refine (getNum_any _ _ (n - at_) _ _ HRL.out hrest (hy.drop _) (by omega)).mono ?_
              rintro e w' ⟨rfl, rfl⟩
              rw [HGN.out]
              unfold gnVal
              go_wp2_with fail
              go_step3
              show 0 = 0 ∧ Wrong64 (getPuts zs = none) w _ _
              exact ⟨rfl, HN.out, hb, _, _, _, _, _, _, _, _, _, _, _, _, _, _, _, _, _, _, _, _, _, _, _, _, _, _, _, _, _, _, _, _, _, _, _, _, _, _, _, _, _, _, _, _, _, _, _, _, _, _, _, _, _, _, _, _, _, _, _, _, _, _, _, _, rfl⟩
            · have hnext : getPuts zs = leftT (L ++ [((zs.drop at_).drop sz).take x]) (m - (j + 1)) (zs.drop (at_ + sz + x)) := by
                have e : (zs.drop at_).drop (sz + x) = zs.drop (at_ + sz + x) := by rw [List.drop_drop]; congr 1; omega
                rw [HF.out, HDD.out, leftT_some hgn (by rw [HRL.out]; omega), e]
                congr 1
                have := HDD.out
                omega
              have HX := Lib.hid hnext
              have HGN := Lib.hid hgn
              clear hnext hgn
              have i2 : ¬ ((n : Int) - ((at_ : Int) + (sz : Int)) < (x : Int)) := by omega
              have htl : (((zs.drop at_).drop sz).take x).length = x := by rw [List.length_take, List.length_drop, HRL.out]; omega
              obtain ⟨tx, ht⟩ : ∃ tx, tx = ((zs.drop at_).drop sz).take x := ⟨_, rfl⟩
              rw [← ht] at htl
              have hcells : ∀ i, i < x → wr.cell? ⟨b, off + (at_ + sz) + i, none⟩ = some (.int .u8 (tx.getD i 0)) := by
                intro i hi
                have h1 := (hr.below hb).open_ (by rw [u8s_length, HZ.out]; omega)
                obtain ⟨b', off', hA, _, hcl⟩ := h1
                cases hA
                have h2 := hcl (at_ + sz + i) _ (u8s_at (by rw [HZ.out]; omega))
                rw [show off + (at_ + sz) + i = off + (at_ + sz + i) by omega, h2, ht]
                congr 2
                rw [List.getD_eq_getElem?_getD, List.getElem?_take_of_lt hi, List.getElem?_drop, List.getElem?_drop]
                congr 2
                omega
              have hconv := fun (l : Nat) => run_convert_bytes_arg (P := Try.prog) wr 33 5 Try.underlying33 Try.underlying5 b (off + (at_ + sz)) x l tx htl hcells 9 Try.underlying9
              have HT := Lib.hid ht
              have HTL := Lib.hid htl
              clear ht htl hcells
              by_cases hcap : c = at_ + sz
              · have hx0 : x ≤ 0 := by omega
                subst hcap
                have hconv0 := fun (l : Nat) => run_convert_bytes_arg (P := Try.prog) wr 33 5 Try.underlying33 Try.underlying5 b off x l tx HTL.out (fun i hi => absurd hi (by omega)) 9 Try.underlying9
                go_wp2_with fail
                refine (getNum_any _ _ (n - at_) _ _ HRL.out hrest (hy.drop _) (by omega)).mono ?_
                rintro e w' ⟨rfl, rfl⟩
                rw [HGN.out]
                unfold gnVal
                go_wp2_with (at_builtin; refine wpList_app_one _ rfl _ _ 94 rfl w.heap.size 9 (.string ByteArray.empty) 16 Try.underlying94 info_str rfl (by decide) _ j _ rfl (ho.alloc _) wr.heap.size (.string (strOfNums tx)) rfl (cell_new _ _ _) rfl (by omega) (by have := hb.size; simp; omega) ?_)
                intro v' w2 ho2 hb2
                have ho3 := own_conv (n' := j + 1) (ys := strs ((L ++ [((zs.drop at_).drop sz).take x]).map strOfNums)) ho2 (by rw [List.map_append, strs_append, ← HT.out]; rfl) rfl
                have hb3 := (hb.alloc hb.size _).trans hb2
                clear ho ho2 hb2
                go_wp2_with fail
                go_roundw
                case rel => exact ⟨j + 1, at_ + sz + x, L ++ [((zs.drop at_).drop sz).take x], by go_num, by go_num, by omega, by omega, by simp [HL.out], ho3, HX.out, hb3⟩
                case measure => simp [intOf]; omega
              · have hdummy : True := trivial
                go_wp2_with fail
                refine (getNum_any _ _ (n - at_) _ _ HRL.out hrest (hy.drop _) (by omega)).mono ?_
                rintro e w' ⟨rfl, rfl⟩
                rw [HGN.out]
                unfold gnVal
                go_wp2_with (at_builtin; refine wpList_app_one _ rfl _ _ 94 rfl w.heap.size 9 (.string ByteArray.empty) 16 Try.underlying94 info_str rfl (by decide) _ j _ rfl (ho.alloc _) wr.heap.size (.string (strOfNums tx)) rfl (cell_new _ _ _) rfl (by omega) (by have := hb.size; simp; omega) ?_)
                intro v' w2 ho2 hb2
                have ho3 := own_conv (n' := j + 1) (ys := strs ((L ++ [((zs.drop at_).drop sz).take x]).map strOfNums)) ho2 (by rw [List.map_append, strs_append, ← HT.out]; rfl) rfl
                have hb3 := (hb.alloc hb.size _).trans hb2
                clear ho ho2 hb2
                go_wp2_with fail
                go_roundw
                case rel => exact ⟨j + 1, at_ + sz + x, L ++ [((zs.drop at_).drop sz).take x], by go_num, by go_num, by omega, by omega, by simp [HL.out], ho3, HX.out, hb3⟩
                case measure => simp [intOf]; omega
        · obtain rfl : j = m := by omega
          have i1 : ¬ ((j : Int) < (j : Int)) := by omega
          by_cases hend : at_ = n
          · have hdn : zs.drop at_ = [] := List.drop_eq_nil_of_le (by rw [HZ.out]; omega)
            have hyes : getPuts zs = some L := by rw [HF.out, Nat.sub_self, leftT_end, if_pos hdn]
            have HY := Lib.hid hyes
            have e1 : ((at_ : Int) == (n : Int)) = true := by simp; omega
            clear hdn hyes hend
            go_wp2_with fail
            simp only [Exit.jump]
            go_ret2
            exact got_some (by rw [HY.out]; rfl) ⟨_, rfl, own_cast ho (by rw [strs_length, List.length_map, HL.out]), hb⟩
          · have hdn : zs.drop at_ ≠ [] := rd_drop_some (by rw [HZ.out]; omega)
            have hno : getPuts zs = none := by rw [HF.out, Nat.sub_self, leftT_end, if_neg hdn]
            have HN := Lib.hid hno
            have e1 : ((at_ : Int) == (n : Int)) = false := by simp; omega
            clear hdn hno hend
            go_wp2_with fail
            go_step3
            go_wp2_with fail
            simp only [Exit.jump]
            go_ret2
            exact got_none (by rw [HN.out]; rfl) rfl hb
    · rintro a' w' ⟨hnone, hb, u0, u1, u2, u3, u4, u5, u6, u7, u8, u9, u10, u11, u12, u13, u14, u15, u16, u17, u18, u19, u20, u21, u22, u23, u24, u25, u26, u27, u28, u29, u30, u31, u32, u33, u34, u35, u36, u37, u38, u39, u40, u41, u42, u43, u44, u45, u46, u47, u48, u49, u50, u51, u52, u53, u54, u55, u56, u57, u58, u59, u60, u61, u62, u63, rfl⟩
      have HN := Lib.hid hnone
      clear hnone
      go_wp2_with fail
      simp only [Exit.jump]
      go_ret2
      exact got_none (by rw [HN.out]; rfl) rfl hb

end Go.Proofs.Ytafkcofocjellaa
