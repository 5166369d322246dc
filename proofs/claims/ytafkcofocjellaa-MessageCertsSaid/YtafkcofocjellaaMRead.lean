/-
  Package message's readRest as landed.
-/
import Derived.Test.YtafkcofocjellaaMCut
import Derived.Test.YtafkcofocjellaaZF
import Derived.Test.YtafkcofocjellaaMEnc
namespace Go.Proofs.Ytafkcofocjellaa
open Go.RowKit

/-! ### what is read, kind by kind -/
def rdBat (k f t : Int) (b : List Int) : Option MsgD := (cutN 3 b).bind fun p => (parseB p.2).map fun q => { zeroM with k := k, f := f, t := t, d := p.1, ba := q.1, bn := q.2.1, L := q.2.2 }
def rdDig (k f t : Int) (b : List Int) : Option MsgD := (cutN 3 b).bind fun p => if p.2 = [] then some { zeroM with k := k, f := f, t := t, d := p.1 } else none
def rdHdr (k f t : Int) (b : List Int) : Option MsgD := (cutN 3 b).bind fun p => (parseH p.2).map fun q => { zeroM with k := k, f := f, t := t, d := p.1, ha := q.1, hr := q.2.1, hB := q.2.2.1, hP := q.2.2.2 }
def rdCer (k f t : Int) (b : List Int) : Option MsgD := (cutN 3 b).bind fun p => (cutL 1 p.2).bind fun s => (parseH s.2).map fun q => { zeroM with k := k, f := f, t := t, ca := q.1, cr := q.2.1, cB := q.2.2.1, cP := q.2.2.2, cd := p.1, cS := s.1 }
def rdWan (k f t : Int) (b : List Int) : Option MsgD := (cutL 3 b).bind fun p => if p.2 = [] then some { zeroM with k := k, f := f, t := t, D := p.1 } else none
theorem restD_bat {k f t : Int} {b : List Int} (h : k = 1 ∨ k = 3) : restD k f t b = rdBat k f t b := by unfold restD rdBat; rw [if_pos h]
theorem restD_dig {k f t : Int} {b : List Int} (h : k = 2 ∨ k = 5) : restD k f t b = rdDig k f t b := by unfold restD rdDig; rw [if_neg (by omega), if_pos h]
theorem restD_hdr {k f t : Int} {b : List Int} (h : k = 4) : restD k f t b = rdHdr k f t b := by unfold restD rdHdr; rw [if_neg (by omega), if_neg (by omega), if_pos h]
theorem restD_cer {k f t : Int} {b : List Int} (h : k = 6) : restD k f t b = rdCer k f t b := by unfold restD rdCer; rw [if_neg (by omega), if_neg (by omega), if_neg (by omega), if_pos h]
theorem restD_wan {k f t : Int} {b : List Int} (h : k = 7 ∨ k = 8) : restD k f t b = rdWan k f t b := by unfold restD rdWan; rw [if_neg (by omega), if_neg (by omega), if_neg (by omega), if_neg (by omega), if_pos h]
theorem batBytes_pos (a n : Int) (L : List TxD) : 0 < (batBytes a n L).length := by
  have := vnum_pos ((batTexts a n L).map byt).length
  rw [batBytes, putPuts, List.length_append]
  omega
theorem parseB_nil : parseB [] = none := by
  cases h : parseB [] with
  | none => rfl
  | some q =>
    obtain ⟨a, n, L⟩ := q
    have e := (parse_get Byts.nil h).2
    have := batBytes_pos a n L
    rw [← e] at this
    simp at this
theorem parseH_nil : parseH [] = none := by
  cases h : parseH [] with
  | none => rfl
  | some q =>
    obtain ⟨a, r, B, P⟩ := q
    have e := (parseH_get Byts.nil h).2
    have := headBytes_pos a r B P
    rw [← e] at this
    simp at this
theorem cutL_nil (k : Nat) : cutL k [] = none := rfl
/-- what a cut leaves, whether it fails or not -/
theorem cut_parts {w : World} {A : Option Addr} {c n k g : Nat} {zs : List Int} (hz : zs.length = n) (hr : Rd w A (u8s zs)) (hy : Byts zs) (hc : n ≤ c) (hm : c ≤ maxLen) (hg : ∀ a, A = some a → a.block ≠ g) :
    ∃ (y : Int) (A2 : Option Addr) (n2 c2 : Nat) (z2 : List Int) (ok : Bool), cutV A c n k zs = .tuple #[.int .i64 y, .slice A2 n2 c2, .bool ok] ∧ z2.length = n2 ∧ Rd w A2 (u8s z2) ∧ Byts z2 ∧ n2 ≤ c2 ∧ c2 ≤ maxLen ∧ n2 ≤ n ∧ (∀ a, A2 = some a → a.block ≠ g) ∧ (ok = true → cutN k zs = some (y, z2)) ∧ (ok = false → z2 = [] ∧ cutN k zs = none) := by
  by_cases h : n < k
  · exact ⟨0, none, 0, 0, [], false, by rw [cutV, if_pos h], rfl, Rd.nil _ _, Byts.nil, Nat.le_refl _, Nat.zero_le _, Nat.zero_le _, fun a ha => (by cases ha), fun h => (by cases h), fun _ => ⟨rfl, cutN_none (by rw [hz]; exact h)⟩⟩
  · refine ⟨_, _, _, _, zs.drop k, true, by rw [cutV, if_neg h], by rw [List.length_drop, hz], ?_, hy.drop k, by omega, by omega, by omega, ?_, fun _ => cutN_some (by rw [hz]; omega), fun h => (by cases h)⟩
    · have := hr.cut (k := k) (c := c) (by rw [u8s_length, hz]; exact hc)
      simpa [u8s, List.map_drop] using this
    · intro a ha
      by_cases hck : c = k
      · rw [if_pos hck] at ha; exact hg a ha
      · rw [if_neg hck] at ha
        cases A with
        | none => cases ha
        | some x =>
          simp only [Option.map_some, Option.some.injEq] at ha
          subst ha
          rw [mblock_add]
          exact hg x rfl
/-- its lists lie at B and beyond -/
structure MsgPast (B : Nat) (a : MsgA) : Prop where
  pL : ∀ x, a.AL = some x → B ≤ x.block
  phB : ∀ x, a.AhB = some x → B ≤ x.block
  phP : ∀ x, a.AhP = some x → B ≤ x.block
  pcB : ∀ x, a.AcB = some x → B ≤ x.block
  pcP : ∀ x, a.AcP = some x → B ≤ x.block
  pcS : ∀ x, a.AcS = some x → B ≤ x.block
  pD : ∀ x, a.AD = some x → B ≤ x.block
theorem past_ne {g : Nat} {A : Option Addr} (h : ∀ a, A = some a → g + 1 ≤ a.block) : ∀ a, A = some a → a.block ≠ g := fun a ha => by have := h a ha; omega
theorem past_none (B : Nat) : ∀ x : Addr, (none : Option Addr) = some x → B ≤ x.block := fun x h => by cases h
theorem MsgIn.touch {F : Nat → Prop} {B : Nat} {w w' : World} {m : MsgD} {a : MsgA} (h : MsgIn w m a) (T : Touch F w w') (hF : ∀ k, F k → k < B) (p : MsgPast B a) : MsgIn w' m a := by
  have q : ∀ {A : Option Addr}, (∀ x, A = some x → B ≤ x.block) → ∀ x, A = some x → ¬ F x.block := fun {A} hp x hx hf => by have := hp x hx; have := hF _ hf; omega
  exact ⟨h.zL, h.rL.touch T (q p.pL), h.kL, h.xL, h.zhB, h.rhB.touch T (q p.phB), h.khB, h.xhB, h.zhP, h.rhP.touch T (q p.phP), h.khP, h.xhP, h.zcB, h.rcB.touch T (q p.pcB), h.kcB, h.xcB, h.zcP, h.rcP.touch T (q p.pcP), h.kcP, h.xcP, h.zcS, h.rcS.touch T (q p.pcS), h.kcS, h.xcS, h.zD, h.rD.touch T (q p.pD), h.kD, h.xD⟩
/-- what readRest tells -/
def ReadGot (g : Nat) (w' : World) (e : Ending) : Option MsgD → Prop
  | none => e = .returned (.bool false)
  | some m => e = .returned (.bool true) ∧ ∃ a, Box w' g (msgC m a) ∧ MsgIn w' m a ∧ MsgPast (g + 1) a
theorem rd_no {g : Nat} {w' : World} {e : Ending} {o : Option MsgD} (h : o = none) (he : e = .returned (.bool false)) : ReadGot g w' e o := by rw [h]; exact he
theorem rd_yes {g : Nat} {w' : World} {e : Ending} {o : Option MsgD} {m : MsgD} {a : MsgA} (h : o = some m) (he : e = .returned (.bool true)) (hb : Box w' g (msgC m a)) (hi : MsgIn w' m a) (hp : MsgPast (g + 1) a) : ReadGot g w' e o := by rw [h]; exact ⟨he, a, hb, hi, hp⟩
theorem Touch.at_g {g j : Nat} {w w' : World} (h : Touch (fun x => x = g) w w') (u : Value) : Touch (fun x => x = g) w (w'.setCell ⟨g, j, none⟩ u) := Touch.set (F := fun x => x = g) h (.inl rfl) u
theorem Touch.one {g : Nat} {w w' w'' : World} (h : Touch (fun x => x = g) w w') (k : Touch (fun x => x = g) w' w'') : Touch (fun x => x = g) w w'' := h.trans k fun _ h => .inl h

theorem msgIn_b {w : World} {k f t y ba bn : Int} {L : List TxD} {AL : Option Addr} {cL : Nat} (rL : Rd w AL (txs L)) (kL : L.length ≤ cL) (xL : cL ≤ maxLen) : MsgIn w { zeroM with k := k, f := f, t := t, d := y, ba := ba, bn := bn, L := L } { zeroA with AL := AL, nL := L.length, cL := cL } := ⟨rfl, rL, kL, xL, rfl, Rd.nil _ _, Nat.le_refl _, Nat.zero_le _, rfl, Rd.nil _ _, Nat.le_refl _, Nat.zero_le _, rfl, Rd.nil _ _, Nat.le_refl _, Nat.zero_le _, rfl, Rd.nil _ _, Nat.le_refl _, Nat.zero_le _, rfl, Rd.nil _ _, Nat.le_refl _, Nat.zero_le _, rfl, Rd.nil _ _, Nat.le_refl _, Nat.zero_le _⟩
theorem msgIn_d {w : World} {k f t y : Int} : MsgIn w { zeroM with k := k, f := f, t := t, d := y } zeroA := ⟨rfl, Rd.nil _ _, Nat.le_refl _, Nat.zero_le _, rfl, Rd.nil _ _, Nat.le_refl _, Nat.zero_le _, rfl, Rd.nil _ _, Nat.le_refl _, Nat.zero_le _, rfl, Rd.nil _ _, Nat.le_refl _, Nat.zero_le _, rfl, Rd.nil _ _, Nat.le_refl _, Nat.zero_le _, rfl, Rd.nil _ _, Nat.le_refl _, Nat.zero_le _, rfl, Rd.nil _ _, Nat.le_refl _, Nat.zero_le _⟩
theorem msgIn_h {w : World} {k f t y ha hr : Int} {hB : List Int} {AhB : Option Addr} {chB : Nat} (rhB : Rd w AhB (i64s hB)) (khB : hB.length ≤ chB) (xhB : chB ≤ maxLen) {hP : List Int} {AhP : Option Addr} {chP : Nat} (rhP : Rd w AhP (i64s hP)) (khP : hP.length ≤ chP) (xhP : chP ≤ maxLen) : MsgIn w { zeroM with k := k, f := f, t := t, d := y, ha := ha, hr := hr, hB := hB, hP := hP } { zeroA with AhB := AhB, nhB := hB.length, chB := chB, AhP := AhP, nhP := hP.length, chP := chP } := ⟨rfl, Rd.nil _ _, Nat.le_refl _, Nat.zero_le _, rfl, rhB, khB, xhB, rfl, rhP, khP, xhP, rfl, Rd.nil _ _, Nat.le_refl _, Nat.zero_le _, rfl, Rd.nil _ _, Nat.le_refl _, Nat.zero_le _, rfl, Rd.nil _ _, Nat.le_refl _, Nat.zero_le _, rfl, Rd.nil _ _, Nat.le_refl _, Nat.zero_le _⟩
theorem msgIn_c {w : World} {k f t y ca cr : Int} {cB : List Int} {AcB : Option Addr} {ccB : Nat} (rcB : Rd w AcB (i64s cB)) (kcB : cB.length ≤ ccB) (xcB : ccB ≤ maxLen) {cP : List Int} {AcP : Option Addr} {ccP : Nat} (rcP : Rd w AcP (i64s cP)) (kcP : cP.length ≤ ccP) (xcP : ccP ≤ maxLen) {cS : List Int} {AcS : Option Addr} {ccS : Nat} (rcS : Rd w AcS (i64s cS)) (kcS : cS.length ≤ ccS) (xcS : ccS ≤ maxLen) : MsgIn w { zeroM with k := k, f := f, t := t, ca := ca, cr := cr, cB := cB, cP := cP, cd := y, cS := cS } { zeroA with AcB := AcB, ncB := cB.length, ccB := ccB, AcP := AcP, ncP := cP.length, ccP := ccP, AcS := AcS, ncS := cS.length, ccS := ccS } := ⟨rfl, Rd.nil _ _, Nat.le_refl _, Nat.zero_le _, rfl, Rd.nil _ _, Nat.le_refl _, Nat.zero_le _, rfl, Rd.nil _ _, Nat.le_refl _, Nat.zero_le _, rfl, rcB, kcB, xcB, rfl, rcP, kcP, xcP, rfl, rcS, kcS, xcS, rfl, Rd.nil _ _, Nat.le_refl _, Nat.zero_le _⟩
theorem msgIn_w {w : World} {k f t : Int} {D : List Int} {AD : Option Addr} {cD : Nat} (rD : Rd w AD (i64s D)) (kD : D.length ≤ cD) (xD : cD ≤ maxLen) : MsgIn w { zeroM with k := k, f := f, t := t, D := D } { zeroA with AD := AD, nD := D.length, cD := cD } := ⟨rfl, Rd.nil _ _, Nat.le_refl _, Nat.zero_le _, rfl, Rd.nil _ _, Nat.le_refl _, Nat.zero_le _, rfl, Rd.nil _ _, Nat.le_refl _, Nat.zero_le _, rfl, Rd.nil _ _, Nat.le_refl _, Nat.zero_le _, rfl, Rd.nil _ _, Nat.le_refl _, Nat.zero_le _, rfl, Rd.nil _ _, Nat.le_refl _, Nat.zero_le _, rfl, rD, kD, xD⟩

set_option maxRecDepth 100000 in
set_option maxHeartbeats 16000000 in
theorem readRest_any (g : Nat) (k f t : Int) (A : Option Addr) (c n : Nat) (zs : List Int) (w : World) (hbx : Box w g (msgC { zeroM with k := k, f := f, t := t } zeroA)) (hz : zs.length = n) (hr : Rd w A (u8s zs)) (hy : Byts zs) (hc : n ≤ c) (hcm : c ≤ maxLen) (hn : n ≤ 1000000) (hg : ∀ a, A = some a → a.block ≠ g) :
    Calls Try.prog 44 #[.pointer (some ⟨g, 0, none⟩), .slice A n c] w fun e w' => Touch (fun x => x = g) w w' ∧ ReadGot g w' e (restD k f t zs) := by
  have HZ := Lib.hid hz
  have HBX := Lib.hid hbx
  have HCM := Lib.hid hcm
  have x0 := (hbx.2 0 _ rfl).1
  clear hz hbx hcm
  go_enter Try.func44, Try.ntmps44
  go_upto_region 4 with fail
  clear x0
  by_cases hk : k = 1
  · have e1 : (k == 1) = true := by simp [hk]
    have e3 : (k == 3) = false := by simp [hk]
    have e2 : (k == 2) = false := by simp [hk]
    have e5 : (k == 5) = false := by simp [hk]
    have e4 : (k == 4) = false := by simp [hk]
    have e6 : (k == 6) = false := by simp [hk]
    have e7 : (k == 7) = false := by simp [hk]
    have e8 : (k == 8) = false := by simp [hk]
    have HD : Hid (restD k f t zs = rdBat k f t zs) := by show restD k f t zs = _; exact restD_bat (by omega)
    clear hk
    obtain ⟨y, A2, n2, c2, z2, ok, hv, hz2, hr2, hy2, hc2, hm2, hn2, hg2, hok, hnok⟩ := cut_parts (k := 3) (g := g) HZ.out hr hy hc HCM.out hg
    have HV := Lib.hid hv
    have HZ2 := Lib.hid hz2
    have HM2 := Lib.hid hm2
    have HOK := Lib.hid hok
    have HNOK := Lib.hid hnok
    clear hv hz2 hm2 hok hnok
    go_wp2_with fail
    refine (cutNum_any A c n zs 3 sz_three 3 rfl _ HZ.out hr hy hc hn).mono ?_
    rintro e w2 ⟨rfl, d, hw2⟩
    have hb2 : Below w.heap.size w w2 := by rw [hw2]; exact below_n (Below.refl _ _) d
    have bx2 := HBX.out.below hb2 HBX.out.1
    clear hw2
    rw [HV.out]
    have xa := (bx2.2 3 _ rfl).1
    have xf := (bx2.2 3 _ rfl).2
    obtain ⟨w3, hw3⟩ : ∃ w3, w3 = w2.setCell ⟨g, 3, none⟩ (.int .i64 y) := ⟨_, rfl⟩
    have bx3 : Box w3 g [.int .i64 k, .int .i64 f, .int .i64 t, .int .i64 y, .int .i64 0, .int .i64 0, .slice none 0 0, .int .i64 0, .int .i64 0, .slice none 0 0, .slice none 0 0, .int .i64 0, .int .i64 0, .slice none 0 0, .slice none 0 0, .int .i64 0, .slice none 0 0, .slice none 0 0] := by rw [hw3]; exact bx2.set (j := 3) (by simp [msgC])
    have t3 : Touch (fun x => x = g) w w3 := by rw [hw3]; exact (Touch.of hb2).at_g _
    have hr3 : Rd w3 A2 (u8s z2) := hr2.touch t3 hg2
    have HW3 := Lib.hid hw3
    have HBX3 := Lib.hid bx3
    clear bx2 hb2 hw3 bx3 hr2
    go_wp2_with fail
    try rw [← HW3.out]
    clear xa xf
    cases hp : parseB z2 with
    | none =>
      have HNO : Hid (restD k f t zs = none) := by
        show restD k f t zs = none
        rw [HD.out, rdBat]
        cases hb : ok with
        | true => rw [HOK.out hb, Option.bind_some, hp]; rfl
        | false => rw [(HNOK.out hb).2]; rfl
      refine (bparse_no A2 c2 n2 z2 _ hp HZ2.out hr3 hy2 hc2 HM2.out (by omega)).mono ?_
      rintro e w4 ⟨rfl, hb4⟩
      have HBX4 := Lib.hid (HBX3.out.below hb4 HBX3.out.1)
      have t4 : Touch (fun x => x = g) w w4 := t3.one (Touch.of hb4)
      clear hp hb4
      go_wp2_with (refine wpList_store_box rfl 25 _ _ rfl g 4 [.int .i64 0, .int .i64 0, .slice none 0 0] [.int .i64 k, .int .i64 f, .int .i64 t, .int .i64 y, .int .i64 0, .int .i64 0, .slice none 0 0, .int .i64 0, .int .i64 0, .slice none 0 0, .slice none 0 0, .int .i64 0, .int .i64 0, .slice none 0 0, .slice none 0 0, .int .i64 0, .slice none 0 0, .slice none 0 0] [.int .i64 k, .int .i64 f, .int .i64 t, .int .i64 y, .int .i64 0, .int .i64 0, .slice none 0 0, .int .i64 0, .int .i64 0, .slice none 0 0, .slice none 0 0, .int .i64 0, .int .i64 0, .slice none 0 0, .slice none 0 0, .int .i64 0, .slice none 0 0, .slice none 0 0] rfl rfl HBX4.out (by simp) rfl size_bat rfl ?_)
      intro w5 bx5 T5
      have t5 : Touch (fun x => x = g) w w5 := t4.one (T5 (fun x => x = g) rfl)
      have HBX5 := Lib.hid bx5
      clear bx5 T5
      cases ok with
      | true =>
        go_wp2_with fail
        go_ret
        exact ⟨t5, rd_no HNO.out rfl⟩
      | false =>
        go_wp2_with fail
        go_ret
        exact ⟨t5, rd_no HNO.out rfl⟩
    | some q =>
      obtain ⟨ba, bn, L⟩ := q
      have hokt : ok = true := by
        cases hb : ok with
        | true => rfl
        | false => rw [(HNOK.out hb).1, parseB_nil] at hp; cases hp
      have HYES : Hid (restD k f t zs = some { zeroM with k := k, f := f, t := t, d := y, ba := ba, bn := bn, L := L }) := by
        show restD k f t zs = _
        rw [HD.out, rdBat, HOK.out hokt, Option.bind_some, hp]
        rfl
      subst hokt
      refine (bparse_yes A2 c2 n2 z2 ba bn L _ hp HZ2.out hr3 hy2 hc2 HM2.out (by omega)).mono ?_
      rintro e w4 ⟨AL, cL, rfl, ho4, hb4⟩
      obtain ⟨A5, c5, hv5, hkL, hxL, hrL, hAL, _⟩ := ownS_slice ho4
      cases hv5
      have hFL : Hid (∀ a, AL = some a → g + 1 ≤ a.block) := fun a ha => by have := hAL a ha; have := HBX3.out.1; omega
      have HXL := Lib.hid hxL
      have HRRL := Lib.hid hrL
      have HBX4 := Lib.hid (HBX3.out.below hb4 HBX3.out.1)
      have t4 : Touch (fun x => x = g) w w4 := t3.one (Touch.of hb4)
      clear hp hb4 ho4 hxL hrL hAL
      go_wp2_with (refine wpList_store_box rfl 25 _ _ rfl g 4 [.int .i64 ba, .int .i64 bn, .slice AL L.length cL] [.int .i64 k, .int .i64 f, .int .i64 t, .int .i64 y, .int .i64 0, .int .i64 0, .slice none 0 0, .int .i64 0, .int .i64 0, .slice none 0 0, .slice none 0 0, .int .i64 0, .int .i64 0, .slice none 0 0, .slice none 0 0, .int .i64 0, .slice none 0 0, .slice none 0 0] [.int .i64 k, .int .i64 f, .int .i64 t, .int .i64 y, .int .i64 ba, .int .i64 bn, .slice AL L.length cL, .int .i64 0, .int .i64 0, .slice none 0 0, .slice none 0 0, .int .i64 0, .int .i64 0, .slice none 0 0, .slice none 0 0, .int .i64 0, .slice none 0 0, .slice none 0 0] rfl rfl HBX4.out (by simp) rfl size_bat rfl ?_)
      intro w5 bx5 T5
      have T5 := T5 (fun x => x = g) rfl
      have t5 : Touch (fun x => x = g) w w5 := t4.one T5
      have hrL : Rd w5 AL (txs L) := HRRL.out.touch T5 (past_ne hFL.out)
      have HBX5 := Lib.hid bx5
      clear bx5 T5
      go_wp2_with fail
      go_ret
      exact ⟨t5, rd_yes (a := { zeroA with AL := AL, nL := L.length, cL := cL }) HYES.out rfl HBX5.out (msgIn_b hrL hkL HXL.out) ⟨hFL.out, past_none _, past_none _, past_none _, past_none _, past_none _, past_none _⟩⟩
  have n1 := Lib.hid hk
  have e1 : (k == 1) = false := by simp [hk]
  clear hk
  by_cases hk : k = 3
  · have e1 : (k == 1) = false := by simp [hk]
    have e3 : (k == 3) = true := by simp [hk]
    have e2 : (k == 2) = false := by simp [hk]
    have e5 : (k == 5) = false := by simp [hk]
    have e4 : (k == 4) = false := by simp [hk]
    have e6 : (k == 6) = false := by simp [hk]
    have e7 : (k == 7) = false := by simp [hk]
    have e8 : (k == 8) = false := by simp [hk]
    have HD : Hid (restD k f t zs = rdBat k f t zs) := by show restD k f t zs = _; exact restD_bat (by omega)
    clear hk
    obtain ⟨y, A2, n2, c2, z2, ok, hv, hz2, hr2, hy2, hc2, hm2, hn2, hg2, hok, hnok⟩ := cut_parts (k := 3) (g := g) HZ.out hr hy hc HCM.out hg
    have HV := Lib.hid hv
    have HZ2 := Lib.hid hz2
    have HM2 := Lib.hid hm2
    have HOK := Lib.hid hok
    have HNOK := Lib.hid hnok
    clear hv hz2 hm2 hok hnok
    go_wp2_with fail
    refine (cutNum_any A c n zs 3 sz_three 3 rfl _ HZ.out hr hy hc hn).mono ?_
    rintro e w2 ⟨rfl, d, hw2⟩
    have hb2 : Below w.heap.size w w2 := by rw [hw2]; exact below_n (Below.refl _ _) d
    have bx2 := HBX.out.below hb2 HBX.out.1
    clear hw2
    rw [HV.out]
    have xa := (bx2.2 3 _ rfl).1
    have xf := (bx2.2 3 _ rfl).2
    obtain ⟨w3, hw3⟩ : ∃ w3, w3 = w2.setCell ⟨g, 3, none⟩ (.int .i64 y) := ⟨_, rfl⟩
    have bx3 : Box w3 g [.int .i64 k, .int .i64 f, .int .i64 t, .int .i64 y, .int .i64 0, .int .i64 0, .slice none 0 0, .int .i64 0, .int .i64 0, .slice none 0 0, .slice none 0 0, .int .i64 0, .int .i64 0, .slice none 0 0, .slice none 0 0, .int .i64 0, .slice none 0 0, .slice none 0 0] := by rw [hw3]; exact bx2.set (j := 3) (by simp [msgC])
    have t3 : Touch (fun x => x = g) w w3 := by rw [hw3]; exact (Touch.of hb2).at_g _
    have hr3 : Rd w3 A2 (u8s z2) := hr2.touch t3 hg2
    have HW3 := Lib.hid hw3
    have HBX3 := Lib.hid bx3
    clear bx2 hb2 hw3 bx3 hr2
    go_wp2_with fail
    try rw [← HW3.out]
    clear xa xf
    cases hp : parseB z2 with
    | none =>
      have HNO : Hid (restD k f t zs = none) := by
        show restD k f t zs = none
        rw [HD.out, rdBat]
        cases hb : ok with
        | true => rw [HOK.out hb, Option.bind_some, hp]; rfl
        | false => rw [(HNOK.out hb).2]; rfl
      refine (bparse_no A2 c2 n2 z2 _ hp HZ2.out hr3 hy2 hc2 HM2.out (by omega)).mono ?_
      rintro e w4 ⟨rfl, hb4⟩
      have HBX4 := Lib.hid (HBX3.out.below hb4 HBX3.out.1)
      have t4 : Touch (fun x => x = g) w w4 := t3.one (Touch.of hb4)
      clear hp hb4
      go_wp2_with (refine wpList_store_box rfl 25 _ _ rfl g 4 [.int .i64 0, .int .i64 0, .slice none 0 0] [.int .i64 k, .int .i64 f, .int .i64 t, .int .i64 y, .int .i64 0, .int .i64 0, .slice none 0 0, .int .i64 0, .int .i64 0, .slice none 0 0, .slice none 0 0, .int .i64 0, .int .i64 0, .slice none 0 0, .slice none 0 0, .int .i64 0, .slice none 0 0, .slice none 0 0] [.int .i64 k, .int .i64 f, .int .i64 t, .int .i64 y, .int .i64 0, .int .i64 0, .slice none 0 0, .int .i64 0, .int .i64 0, .slice none 0 0, .slice none 0 0, .int .i64 0, .int .i64 0, .slice none 0 0, .slice none 0 0, .int .i64 0, .slice none 0 0, .slice none 0 0] rfl rfl HBX4.out (by simp) rfl size_bat rfl ?_)
      intro w5 bx5 T5
      have t5 : Touch (fun x => x = g) w w5 := t4.one (T5 (fun x => x = g) rfl)
      have HBX5 := Lib.hid bx5
      clear bx5 T5
      cases ok with
      | true =>
        go_wp2_with fail
        go_ret
        exact ⟨t5, rd_no HNO.out rfl⟩
      | false =>
        go_wp2_with fail
        go_ret
        exact ⟨t5, rd_no HNO.out rfl⟩
    | some q =>
      obtain ⟨ba, bn, L⟩ := q
      have hokt : ok = true := by
        cases hb : ok with
        | true => rfl
        | false => rw [(HNOK.out hb).1, parseB_nil] at hp; cases hp
      have HYES : Hid (restD k f t zs = some { zeroM with k := k, f := f, t := t, d := y, ba := ba, bn := bn, L := L }) := by
        show restD k f t zs = _
        rw [HD.out, rdBat, HOK.out hokt, Option.bind_some, hp]
        rfl
      subst hokt
      refine (bparse_yes A2 c2 n2 z2 ba bn L _ hp HZ2.out hr3 hy2 hc2 HM2.out (by omega)).mono ?_
      rintro e w4 ⟨AL, cL, rfl, ho4, hb4⟩
      obtain ⟨A5, c5, hv5, hkL, hxL, hrL, hAL, _⟩ := ownS_slice ho4
      cases hv5
      have hFL : Hid (∀ a, AL = some a → g + 1 ≤ a.block) := fun a ha => by have := hAL a ha; have := HBX3.out.1; omega
      have HXL := Lib.hid hxL
      have HRRL := Lib.hid hrL
      have HBX4 := Lib.hid (HBX3.out.below hb4 HBX3.out.1)
      have t4 : Touch (fun x => x = g) w w4 := t3.one (Touch.of hb4)
      clear hp hb4 ho4 hxL hrL hAL
      go_wp2_with (refine wpList_store_box rfl 25 _ _ rfl g 4 [.int .i64 ba, .int .i64 bn, .slice AL L.length cL] [.int .i64 k, .int .i64 f, .int .i64 t, .int .i64 y, .int .i64 0, .int .i64 0, .slice none 0 0, .int .i64 0, .int .i64 0, .slice none 0 0, .slice none 0 0, .int .i64 0, .int .i64 0, .slice none 0 0, .slice none 0 0, .int .i64 0, .slice none 0 0, .slice none 0 0] [.int .i64 k, .int .i64 f, .int .i64 t, .int .i64 y, .int .i64 ba, .int .i64 bn, .slice AL L.length cL, .int .i64 0, .int .i64 0, .slice none 0 0, .slice none 0 0, .int .i64 0, .int .i64 0, .slice none 0 0, .slice none 0 0, .int .i64 0, .slice none 0 0, .slice none 0 0] rfl rfl HBX4.out (by simp) rfl size_bat rfl ?_)
      intro w5 bx5 T5
      have T5 := T5 (fun x => x = g) rfl
      have t5 : Touch (fun x => x = g) w w5 := t4.one T5
      have hrL : Rd w5 AL (txs L) := HRRL.out.touch T5 (past_ne hFL.out)
      have HBX5 := Lib.hid bx5
      clear bx5 T5
      go_wp2_with fail
      go_ret
      exact ⟨t5, rd_yes (a := { zeroA with AL := AL, nL := L.length, cL := cL }) HYES.out rfl HBX5.out (msgIn_b hrL hkL HXL.out) ⟨hFL.out, past_none _, past_none _, past_none _, past_none _, past_none _, past_none _⟩⟩
  have n3 := Lib.hid hk
  have e3 : (k == 3) = false := by simp [hk]
  clear hk
  by_cases hk : k = 2
  · have e1 : (k == 1) = false := by simp [hk]
    have e3 : (k == 3) = false := by simp [hk]
    have e2 : (k == 2) = true := by simp [hk]
    have e5 : (k == 5) = false := by simp [hk]
    have e4 : (k == 4) = false := by simp [hk]
    have e6 : (k == 6) = false := by simp [hk]
    have e7 : (k == 7) = false := by simp [hk]
    have e8 : (k == 8) = false := by simp [hk]
    have HD : Hid (restD k f t zs = rdDig k f t zs) := by show restD k f t zs = _; exact restD_dig (by omega)
    clear hk
    obtain ⟨y, A2, n2, c2, z2, ok, hv, hz2, hr2, hy2, hc2, hm2, hn2, hg2, hok, hnok⟩ := cut_parts (k := 3) (g := g) HZ.out hr hy hc HCM.out hg
    have HV := Lib.hid hv
    have HZ2 := Lib.hid hz2
    have HM2 := Lib.hid hm2
    have HOK := Lib.hid hok
    have HNOK := Lib.hid hnok
    clear hv hz2 hm2 hok hnok
    go_wp2_with fail
    refine (cutNum_any A c n zs 3 sz_three 3 rfl _ HZ.out hr hy hc hn).mono ?_
    rintro e w2 ⟨rfl, d, hw2⟩
    have hb2 : Below w.heap.size w w2 := by rw [hw2]; exact below_n (Below.refl _ _) d
    have bx2 := HBX.out.below hb2 HBX.out.1
    clear hw2
    rw [HV.out]
    have xa := (bx2.2 3 _ rfl).1
    have xf := (bx2.2 3 _ rfl).2
    obtain ⟨w3, hw3⟩ : ∃ w3, w3 = w2.setCell ⟨g, 3, none⟩ (.int .i64 y) := ⟨_, rfl⟩
    have bx3 : Box w3 g [.int .i64 k, .int .i64 f, .int .i64 t, .int .i64 y, .int .i64 0, .int .i64 0, .slice none 0 0, .int .i64 0, .int .i64 0, .slice none 0 0, .slice none 0 0, .int .i64 0, .int .i64 0, .slice none 0 0, .slice none 0 0, .int .i64 0, .slice none 0 0, .slice none 0 0] := by rw [hw3]; exact bx2.set (j := 3) (by simp [msgC])
    have t3 : Touch (fun x => x = g) w w3 := by rw [hw3]; exact (Touch.of hb2).at_g _
    have hr3 : Rd w3 A2 (u8s z2) := hr2.touch t3 hg2
    have HW3 := Lib.hid hw3
    have HBX3 := Lib.hid bx3
    clear bx2 hb2 hw3 bx3 hr2
    cases ok with
    | false =>
      have HNO : Hid (restD k f t zs = none) := by show restD k f t zs = none; rw [HD.out, rdDig, (HNOK.out rfl).2]; rfl
      go_wp2_with fail
      try rw [← HW3.out]
      go_ret
      exact ⟨t3, rd_no HNO.out rfl⟩
    | true =>
      by_cases hl : n2 = 0
      · have hz0 : z2 = [] := List.eq_nil_of_length_eq_zero (by rw [HZ2.out]; exact hl)
        have HYES : Hid (restD k f t zs = some { zeroM with k := k, f := f, t := t, d := y }) := by show restD k f t zs = _; rw [HD.out, rdDig, HOK.out rfl, Option.bind_some, if_pos hz0]
        subst hl
        go_wp2_with fail
        try rw [← HW3.out]
        go_ret
        exact ⟨t3, rd_yes (a := zeroA) HYES.out (by simp) HBX3.out msgIn_d ⟨past_none _, past_none _, past_none _, past_none _, past_none _, past_none _, past_none _⟩⟩
      · have hz0 : ¬ (z2 = []) := fun h => hl (by rw [← HZ2.out, h]; rfl)
        have HNO : Hid (restD k f t zs = none) := by show restD k f t zs = _; rw [HD.out, rdDig, HOK.out rfl, Option.bind_some, if_neg hz0]
        have j : ((n2 : Int) == 0) = false := by simp; omega
        clear hl hz0
        go_wp2_with fail
        try rw [← HW3.out]
        go_ret
        exact ⟨t3, rd_no HNO.out (ret_bool (by first | exact j | simp))⟩
  have n2 := Lib.hid hk
  have e2 : (k == 2) = false := by simp [hk]
  clear hk
  by_cases hk : k = 5
  · have e1 : (k == 1) = false := by simp [hk]
    have e3 : (k == 3) = false := by simp [hk]
    have e2 : (k == 2) = false := by simp [hk]
    have e5 : (k == 5) = true := by simp [hk]
    have e4 : (k == 4) = false := by simp [hk]
    have e6 : (k == 6) = false := by simp [hk]
    have e7 : (k == 7) = false := by simp [hk]
    have e8 : (k == 8) = false := by simp [hk]
    have HD : Hid (restD k f t zs = rdDig k f t zs) := by show restD k f t zs = _; exact restD_dig (by omega)
    clear hk
    obtain ⟨y, A2, n2, c2, z2, ok, hv, hz2, hr2, hy2, hc2, hm2, hn2, hg2, hok, hnok⟩ := cut_parts (k := 3) (g := g) HZ.out hr hy hc HCM.out hg
    have HV := Lib.hid hv
    have HZ2 := Lib.hid hz2
    have HM2 := Lib.hid hm2
    have HOK := Lib.hid hok
    have HNOK := Lib.hid hnok
    clear hv hz2 hm2 hok hnok
    go_wp2_with fail
    refine (cutNum_any A c n zs 3 sz_three 3 rfl _ HZ.out hr hy hc hn).mono ?_
    rintro e w2 ⟨rfl, d, hw2⟩
    have hb2 : Below w.heap.size w w2 := by rw [hw2]; exact below_n (Below.refl _ _) d
    have bx2 := HBX.out.below hb2 HBX.out.1
    clear hw2
    rw [HV.out]
    have xa := (bx2.2 3 _ rfl).1
    have xf := (bx2.2 3 _ rfl).2
    obtain ⟨w3, hw3⟩ : ∃ w3, w3 = w2.setCell ⟨g, 3, none⟩ (.int .i64 y) := ⟨_, rfl⟩
    have bx3 : Box w3 g [.int .i64 k, .int .i64 f, .int .i64 t, .int .i64 y, .int .i64 0, .int .i64 0, .slice none 0 0, .int .i64 0, .int .i64 0, .slice none 0 0, .slice none 0 0, .int .i64 0, .int .i64 0, .slice none 0 0, .slice none 0 0, .int .i64 0, .slice none 0 0, .slice none 0 0] := by rw [hw3]; exact bx2.set (j := 3) (by simp [msgC])
    have t3 : Touch (fun x => x = g) w w3 := by rw [hw3]; exact (Touch.of hb2).at_g _
    have hr3 : Rd w3 A2 (u8s z2) := hr2.touch t3 hg2
    have HW3 := Lib.hid hw3
    have HBX3 := Lib.hid bx3
    clear bx2 hb2 hw3 bx3 hr2
    cases ok with
    | false =>
      have HNO : Hid (restD k f t zs = none) := by show restD k f t zs = none; rw [HD.out, rdDig, (HNOK.out rfl).2]; rfl
      go_wp2_with fail
      try rw [← HW3.out]
      go_ret
      exact ⟨t3, rd_no HNO.out rfl⟩
    | true =>
      by_cases hl : n2 = 0
      · have hz0 : z2 = [] := List.eq_nil_of_length_eq_zero (by rw [HZ2.out]; exact hl)
        have HYES : Hid (restD k f t zs = some { zeroM with k := k, f := f, t := t, d := y }) := by show restD k f t zs = _; rw [HD.out, rdDig, HOK.out rfl, Option.bind_some, if_pos hz0]
        subst hl
        go_wp2_with fail
        try rw [← HW3.out]
        go_ret
        exact ⟨t3, rd_yes (a := zeroA) HYES.out (by simp) HBX3.out msgIn_d ⟨past_none _, past_none _, past_none _, past_none _, past_none _, past_none _, past_none _⟩⟩
      · have hz0 : ¬ (z2 = []) := fun h => hl (by rw [← HZ2.out, h]; rfl)
        have HNO : Hid (restD k f t zs = none) := by show restD k f t zs = _; rw [HD.out, rdDig, HOK.out rfl, Option.bind_some, if_neg hz0]
        have j : ((n2 : Int) == 0) = false := by simp; omega
        clear hl hz0
        go_wp2_with fail
        try rw [← HW3.out]
        go_ret
        exact ⟨t3, rd_no HNO.out (ret_bool (by first | exact j | simp))⟩
  have n5 := Lib.hid hk
  have e5 : (k == 5) = false := by simp [hk]
  clear hk
  by_cases hk : k = 4
  · have e1 : (k == 1) = false := by simp [hk]
    have e3 : (k == 3) = false := by simp [hk]
    have e2 : (k == 2) = false := by simp [hk]
    have e5 : (k == 5) = false := by simp [hk]
    have e4 : (k == 4) = true := by simp [hk]
    have e6 : (k == 6) = false := by simp [hk]
    have e7 : (k == 7) = false := by simp [hk]
    have e8 : (k == 8) = false := by simp [hk]
    have HD : Hid (restD k f t zs = rdHdr k f t zs) := by show restD k f t zs = _; exact restD_hdr (by omega)
    clear hk
    obtain ⟨y, A2, n2, c2, z2, ok, hv, hz2, hr2, hy2, hc2, hm2, hn2, hg2, hok, hnok⟩ := cut_parts (k := 3) (g := g) HZ.out hr hy hc HCM.out hg
    have HV := Lib.hid hv
    have HZ2 := Lib.hid hz2
    have HM2 := Lib.hid hm2
    have HOK := Lib.hid hok
    have HNOK := Lib.hid hnok
    clear hv hz2 hm2 hok hnok
    go_wp2_with fail
    refine (cutNum_any A c n zs 3 sz_three 3 rfl _ HZ.out hr hy hc hn).mono ?_
    rintro e w2 ⟨rfl, d, hw2⟩
    have hb2 : Below w.heap.size w w2 := by rw [hw2]; exact below_n (Below.refl _ _) d
    have bx2 := HBX.out.below hb2 HBX.out.1
    clear hw2
    rw [HV.out]
    have xa := (bx2.2 3 _ rfl).1
    have xf := (bx2.2 3 _ rfl).2
    obtain ⟨w3, hw3⟩ : ∃ w3, w3 = w2.setCell ⟨g, 3, none⟩ (.int .i64 y) := ⟨_, rfl⟩
    have bx3 : Box w3 g [.int .i64 k, .int .i64 f, .int .i64 t, .int .i64 y, .int .i64 0, .int .i64 0, .slice none 0 0, .int .i64 0, .int .i64 0, .slice none 0 0, .slice none 0 0, .int .i64 0, .int .i64 0, .slice none 0 0, .slice none 0 0, .int .i64 0, .slice none 0 0, .slice none 0 0] := by rw [hw3]; exact bx2.set (j := 3) (by simp [msgC])
    have t3 : Touch (fun x => x = g) w w3 := by rw [hw3]; exact (Touch.of hb2).at_g _
    have hr3 : Rd w3 A2 (u8s z2) := hr2.touch t3 hg2
    have HW3 := Lib.hid hw3
    have HBX3 := Lib.hid bx3
    clear bx2 hb2 hw3 bx3 hr2
    go_wp2_with fail
    try rw [← HW3.out]
    clear xa xf
    cases hp : parseH z2 with
    | none =>
      have HNO : Hid (restD k f t zs = none) := by
        show restD k f t zs = none
        rw [HD.out, rdHdr]
        cases hb : ok with
        | true => rw [HOK.out hb, Option.bind_some, hp]; rfl
        | false => rw [(HNOK.out hb).2]; rfl
      refine (hparse_no A2 c2 n2 z2 _ hp HZ2.out hr3 hy2 hc2 HM2.out (by omega)).mono ?_
      rintro e w4 ⟨rfl, hb4⟩
      have HBX4 := Lib.hid (HBX3.out.below hb4 HBX3.out.1)
      have t4 : Touch (fun x => x = g) w w4 := t3.one (Touch.of hb4)
      clear hp hb4
      go_wp2_with (refine wpList_store_box rfl 28 _ _ rfl g 7 [.int .i64 0, .int .i64 0, .slice none 0 0, .slice none 0 0] [.int .i64 k, .int .i64 f, .int .i64 t, .int .i64 y, .int .i64 0, .int .i64 0, .slice none 0 0, .int .i64 0, .int .i64 0, .slice none 0 0, .slice none 0 0, .int .i64 0, .int .i64 0, .slice none 0 0, .slice none 0 0, .int .i64 0, .slice none 0 0, .slice none 0 0] [.int .i64 k, .int .i64 f, .int .i64 t, .int .i64 y, .int .i64 0, .int .i64 0, .slice none 0 0, .int .i64 0, .int .i64 0, .slice none 0 0, .slice none 0 0, .int .i64 0, .int .i64 0, .slice none 0 0, .slice none 0 0, .int .i64 0, .slice none 0 0, .slice none 0 0] rfl rfl HBX4.out (by simp) rfl size_hdr rfl ?_)
      intro w5 bx5 T5
      have t5 : Touch (fun x => x = g) w w5 := t4.one (T5 (fun x => x = g) rfl)
      have HBX5 := Lib.hid bx5
      clear bx5 T5
      cases ok with
      | true =>
        go_wp2_with fail
        go_ret
        exact ⟨t5, rd_no HNO.out rfl⟩
      | false =>
        go_wp2_with fail
        go_ret
        exact ⟨t5, rd_no HNO.out rfl⟩
    | some q =>
      obtain ⟨ha, hr, hB, hP⟩ := q
      have hokt : ok = true := by
        cases hb : ok with
        | true => rfl
        | false => rw [(HNOK.out hb).1, parseH_nil] at hp; cases hp
      have HYES : Hid (restD k f t zs = some { zeroM with k := k, f := f, t := t, d := y, ha := ha, hr := hr, hB := hB, hP := hP }) := by
        show restD k f t zs = _
        rw [HD.out, rdHdr, HOK.out hokt, Option.bind_some, hp]
        rfl
      subst hokt
      refine (hparse_yes A2 c2 n2 z2 ha hr hB hP _ hp HZ2.out hr3 hy2 hc2 HM2.out (by omega)).mono ?_
      rintro e w4 ⟨AhB, chB, AhP, chP, rfl, ho4, ho4b, _, hb4⟩
      obtain ⟨A5, c5, hv5, hkhB, hxhB, hrhB, hAhB, _⟩ := own_val ho4
      cases hv5
      obtain ⟨A5, c5, hv5, hkhP, hxhP, hrhP, hAhP, _⟩ := own_val ho4b
      cases hv5
      have hFhB : Hid (∀ a, AhB = some a → g + 1 ≤ a.block) := fun a ha => by have := hAhB a ha; have := HBX3.out.1; omega
      have hFhP : Hid (∀ a, AhP = some a → g + 1 ≤ a.block) := fun a ha => by have := hAhP a ha; have := HBX3.out.1; omega
      have HXhB := Lib.hid hxhB
      have HRRhB := Lib.hid hrhB
      have HXhP := Lib.hid hxhP
      have HRRhP := Lib.hid hrhP
      have HBX4 := Lib.hid (HBX3.out.below hb4 HBX3.out.1)
      have t4 : Touch (fun x => x = g) w w4 := t3.one (Touch.of hb4)
      clear hp hb4 ho4 ho4b hxhB hrhB hAhB hxhP hrhP hAhP
      go_wp2_with (refine wpList_store_box rfl 28 _ _ rfl g 7 [.int .i64 ha, .int .i64 hr, .slice AhB hB.length chB, .slice AhP hP.length chP] [.int .i64 k, .int .i64 f, .int .i64 t, .int .i64 y, .int .i64 0, .int .i64 0, .slice none 0 0, .int .i64 0, .int .i64 0, .slice none 0 0, .slice none 0 0, .int .i64 0, .int .i64 0, .slice none 0 0, .slice none 0 0, .int .i64 0, .slice none 0 0, .slice none 0 0] [.int .i64 k, .int .i64 f, .int .i64 t, .int .i64 y, .int .i64 0, .int .i64 0, .slice none 0 0, .int .i64 ha, .int .i64 hr, .slice AhB hB.length chB, .slice AhP hP.length chP, .int .i64 0, .int .i64 0, .slice none 0 0, .slice none 0 0, .int .i64 0, .slice none 0 0, .slice none 0 0] rfl rfl HBX4.out (by simp) rfl size_hdr rfl ?_)
      intro w5 bx5 T5
      have T5 := T5 (fun x => x = g) rfl
      have t5 : Touch (fun x => x = g) w w5 := t4.one T5
      have hrhB : Rd w5 AhB (i64s hB) := HRRhB.out.touch T5 (past_ne hFhB.out)
      have hrhP : Rd w5 AhP (i64s hP) := HRRhP.out.touch T5 (past_ne hFhP.out)
      have HBX5 := Lib.hid bx5
      clear bx5 T5
      go_wp2_with fail
      go_ret
      exact ⟨t5, rd_yes (a := { zeroA with AhB := AhB, nhB := hB.length, chB := chB, AhP := AhP, nhP := hP.length, chP := chP }) HYES.out rfl HBX5.out (msgIn_h hrhB hkhB HXhB.out hrhP hkhP HXhP.out) ⟨past_none _, hFhB.out, hFhP.out, past_none _, past_none _, past_none _, past_none _⟩⟩
  have n4 := Lib.hid hk
  have e4 : (k == 4) = false := by simp [hk]
  clear hk
  by_cases hk : k = 6
  · have e1 : (k == 1) = false := by simp [hk]
    have e3 : (k == 3) = false := by simp [hk]
    have e2 : (k == 2) = false := by simp [hk]
    have e5 : (k == 5) = false := by simp [hk]
    have e4 : (k == 4) = false := by simp [hk]
    have e6 : (k == 6) = true := by simp [hk]
    have e7 : (k == 7) = false := by simp [hk]
    have e8 : (k == 8) = false := by simp [hk]
    have HD : Hid (restD k f t zs = rdCer k f t zs) := by show restD k f t zs = _; exact restD_cer (by omega)
    clear hk
    obtain ⟨y, A2, n2, c2, z2, ok, hv, hz2, hr2, hy2, hc2, hm2, hn2, hg2, hok, hnok⟩ := cut_parts (k := 3) (g := g) HZ.out hr hy hc HCM.out hg
    have HV := Lib.hid hv
    have HZ2 := Lib.hid hz2
    have HM2 := Lib.hid hm2
    have HOK := Lib.hid hok
    have HNOK := Lib.hid hnok
    clear hv hz2 hm2 hok hnok
    go_wp2_with fail
    refine (cutNum_any A c n zs 3 sz_three 3 rfl _ HZ.out hr hy hc hn).mono ?_
    rintro e w2 ⟨rfl, d, hw2⟩
    have hb2 : Below w.heap.size w w2 := by rw [hw2]; exact below_n (Below.refl _ _) d
    have bx2 := HBX.out.below hb2 HBX.out.1
    clear hw2
    rw [HV.out]
    have xa := (bx2.2 15 _ rfl).1
    have xf := (bx2.2 15 _ rfl).2
    obtain ⟨w3, hw3⟩ : ∃ w3, w3 = w2.setCell ⟨g, 15, none⟩ (.int .i64 y) := ⟨_, rfl⟩
    have bx3 : Box w3 g [.int .i64 k, .int .i64 f, .int .i64 t, .int .i64 0, .int .i64 0, .int .i64 0, .slice none 0 0, .int .i64 0, .int .i64 0, .slice none 0 0, .slice none 0 0, .int .i64 0, .int .i64 0, .slice none 0 0, .slice none 0 0, .int .i64 y, .slice none 0 0, .slice none 0 0] := by rw [hw3]; exact bx2.set (j := 15) (by simp [msgC])
    have t3 : Touch (fun x => x = g) w w3 := by rw [hw3]; exact (Touch.of hb2).at_g _
    have hr3 : Rd w3 A2 (u8s z2) := hr2.touch t3 hg2
    have HW3 := Lib.hid hw3
    have HBX3 := Lib.hid bx3
    clear bx2 hb2 hw3 bx3 hr2
    go_wp2_with fail
    try rw [← HW3.out]
    clear xa xf
    refine (cutList_any A2 c2 n2 z2 1 sz_one 1 rfl _ HZ2.out hr3 hy2 hc2 HM2.out (by omega)).mono ?_
    rintro e w4 ⟨hb4, hgot⟩
    have bx4 := HBX3.out.below hb4 HBX3.out.1
    have t4 : Touch (fun x => x = g) w w4 := t3.one (Touch.of hb4)
    have xa := (bx4.2 16 _ rfl).1
    have xf := (bx4.2 16 _ rfl).2
    cases hp : cutL 1 z2 with
    | none =>
      rw [hp] at hgot
      simp only [CutGot] at hgot
      subst hgot
      have HNO : Hid (restD k f t zs = none) := by
        show restD k f t zs = none
        rw [HD.out, rdCer]
        cases hb : ok with
        | true => rw [HOK.out hb, Option.bind_some, hp]; rfl
        | false => rw [(HNOK.out hb).2]; rfl
      obtain ⟨w5, hw5⟩ : ∃ w5, w5 = w4.setCell ⟨g, 16, none⟩ (.slice none 0 0) := ⟨_, rfl⟩
      have bx5 : Box w5 g [.int .i64 k, .int .i64 f, .int .i64 t, .int .i64 0, .int .i64 0, .int .i64 0, .slice none 0 0, .int .i64 0, .int .i64 0, .slice none 0 0, .slice none 0 0, .int .i64 0, .int .i64 0, .slice none 0 0, .slice none 0 0, .int .i64 y, .slice none 0 0, .slice none 0 0] := by rw [hw5]; exact bx4.set (j := 16) (by simp)
      have t5 : Touch (fun x => x = g) w w5 := by rw [hw5]; exact t4.at_g _
      have HW5 := Lib.hid hw5
      have HBX5 := Lib.hid bx5
      clear hp hw5 bx5 bx4 hb4
      go_wp2_with fail
      rw [← HW5.out]
      clear xa xf
      refine (hparse_no none 0 0 [] _ parseH_nil rfl (Rd.nil _ _) Byts.nil (Nat.le_refl _) (Nat.zero_le _) (by omega)).mono ?_
      rintro e w6 ⟨rfl, hb6⟩
      have HBX6 := Lib.hid (HBX5.out.below hb6 HBX5.out.1)
      have t6 : Touch (fun x => x = g) w w6 := t5.one (Touch.of hb6)
      clear hb6
      go_wp2_with (refine wpList_store_box rfl 28 _ _ rfl g 11 [.int .i64 0, .int .i64 0, .slice none 0 0, .slice none 0 0] [.int .i64 k, .int .i64 f, .int .i64 t, .int .i64 0, .int .i64 0, .int .i64 0, .slice none 0 0, .int .i64 0, .int .i64 0, .slice none 0 0, .slice none 0 0, .int .i64 0, .int .i64 0, .slice none 0 0, .slice none 0 0, .int .i64 y, .slice none 0 0, .slice none 0 0] [.int .i64 k, .int .i64 f, .int .i64 t, .int .i64 0, .int .i64 0, .int .i64 0, .slice none 0 0, .int .i64 0, .int .i64 0, .slice none 0 0, .slice none 0 0, .int .i64 0, .int .i64 0, .slice none 0 0, .slice none 0 0, .int .i64 y, .slice none 0 0, .slice none 0 0] rfl rfl HBX6.out (by simp) rfl size_hdr rfl ?_)
      intro w7 bx7 T7
      have t7 : Touch (fun x => x = g) w w7 := t6.one (T7 (fun x => x = g) rfl)
      have HBX7 := Lib.hid bx7
      clear bx7 T7
      go_wp2_with fail
      go_ret
      exact ⟨t7, rd_no HNO.out rfl⟩
    | some s =>
      obtain ⟨cS, z3⟩ := s
      rw [hp] at hgot
      obtain ⟨AcS, ccS, A3, c3, rfl, ho, hr4, hc3, hm3, hsm⟩ := hgot
      obtain ⟨A5, c5, hv5, hkcS, hxcS, hrcS, hAcS, _⟩ := own_val ho
      cases hv5
      have hokt : ok = true := by
        cases hb : ok with
        | true => rfl
        | false => rw [(HNOK.out hb).1, cutL_nil] at hp; cases hp
      have hy3 := (cutL_get sz_one hy2 hp).2
      have hn3 : z3.length ≤ n2 := by
        have h := congrArg List.length (cutL_get sz_one hy2 hp).1
        rw [List.length_append, HZ2.out] at h
        omega
      have hFcS : ∀ a, AcS = some a → g + 1 ≤ a.block := fun a ha => by have := hAcS a ha; have := HBX3.out.1; omega
      obtain ⟨w5, hw5⟩ : ∃ w5, w5 = w4.setCell ⟨g, 16, none⟩ (.slice AcS cS.length ccS) := ⟨_, rfl⟩
      have bx5 : Box w5 g [.int .i64 k, .int .i64 f, .int .i64 t, .int .i64 0, .int .i64 0, .int .i64 0, .slice none 0 0, .int .i64 0, .int .i64 0, .slice none 0 0, .slice none 0 0, .int .i64 0, .int .i64 0, .slice none 0 0, .slice none 0 0, .int .i64 y, .slice AcS cS.length ccS, .slice none 0 0] := by rw [hw5]; exact bx4.set (j := 16) (by simp)
      have T5 : Touch (fun x => x = g) w4 w5 := by rw [hw5]; exact (Touch.refl _ _).at_g _
      have t5 : Touch (fun x => x = g) w w5 := t4.one T5
      have hrcS : Rd w5 AcS (i64s cS) := hrcS.touch T5 (past_ne hFcS)
      have HRS : Hid (Rd w5 AcS (i64s cS)) := hrcS
      have HFS := Lib.hid hFcS
      have HXS := Lib.hid hxcS
      have HW5 := Lib.hid hw5
      have HBX5 := Lib.hid bx5
      have hr5 : Rd w5 A3 (u8s z3) := hr4.touch T5 (hsm g hg2)
      have HP := Lib.hid hp
      have HM3 := Lib.hid hm3
      obtain ⟨n3, hz3⟩ : ∃ n3, z3.length = n3 := ⟨_, rfl⟩
      rw [hz3] at hn3 hc3
      rw [hz3]
      have HZ3 := Lib.hid hz3
      subst hokt
      clear hsm hp hw5 bx5 bx4 T5 hb4 hrcS hFcS hxcS hAcS hz3 hm3 ho hr4
      go_wp2_with fail
      rw [← HW5.out]
      clear xa xf
      cases hh : parseH z3 with
      | none =>
        have HNO : Hid (restD k f t zs = none) := by
          show restD k f t zs = none
          rw [HD.out, rdCer, HOK.out (by trivial), Option.bind_some, HP.out, Option.bind_some, hh]; rfl
        refine (hparse_no A3 c3 n3 z3 _ hh HZ3.out hr5 hy3 hc3 HM3.out (by omega)).mono ?_
        rintro e w6 ⟨rfl, hb6⟩
        have HBX6 := Lib.hid (HBX5.out.below hb6 HBX5.out.1)
        have t6 : Touch (fun x => x = g) w w6 := t5.one (Touch.of hb6)
        clear hb6 hh
        go_wp2_with (refine wpList_store_box rfl 28 _ _ rfl g 11 [.int .i64 0, .int .i64 0, .slice none 0 0, .slice none 0 0] [.int .i64 k, .int .i64 f, .int .i64 t, .int .i64 0, .int .i64 0, .int .i64 0, .slice none 0 0, .int .i64 0, .int .i64 0, .slice none 0 0, .slice none 0 0, .int .i64 0, .int .i64 0, .slice none 0 0, .slice none 0 0, .int .i64 y, .slice AcS cS.length ccS, .slice none 0 0] [.int .i64 k, .int .i64 f, .int .i64 t, .int .i64 0, .int .i64 0, .int .i64 0, .slice none 0 0, .int .i64 0, .int .i64 0, .slice none 0 0, .slice none 0 0, .int .i64 0, .int .i64 0, .slice none 0 0, .slice none 0 0, .int .i64 y, .slice AcS cS.length ccS, .slice none 0 0] rfl rfl HBX6.out (by simp) rfl size_hdr rfl ?_)
        intro w7 bx7 T7
        have t7 : Touch (fun x => x = g) w w7 := t6.one (T7 (fun x => x = g) rfl)
        have HBX7 := Lib.hid bx7
        clear bx7 T7
        go_wp2_with fail
        go_ret
        exact ⟨t7, rd_no HNO.out rfl⟩
      | some q =>
        obtain ⟨ca, cr, cB, cP⟩ := q
        have HYES : Hid (restD k f t zs = some { zeroM with k := k, f := f, t := t, ca := ca, cr := cr, cB := cB, cP := cP, cd := y, cS := cS }) := by
          show restD k f t zs = _
          rw [HD.out, rdCer, HOK.out (by trivial), Option.bind_some, HP.out, Option.bind_some, hh]; rfl
        refine (hparse_yes A3 c3 n3 z3 ca cr cB cP _ hh HZ3.out hr5 hy3 hc3 HM3.out (by omega)).mono ?_
        rintro e w6 ⟨AcB, ccB, AcP, ccP, rfl, ho6, ho6b, _, hb6⟩
        obtain ⟨A5, c5, hv5, hkcB, hxcB, hrcB, hAcB, _⟩ := own_val ho6
        cases hv5
        obtain ⟨A5, c5, hv5, hkcP, hxcP, hrcP, hAcP, _⟩ := own_val ho6b
        cases hv5
        have hFcB : Hid (∀ a, AcB = some a → g + 1 ≤ a.block) := fun a ha => by have := hAcB a ha; have := HBX5.out.1; omega
        have HXcB := Lib.hid hxcB
        have HRRcB := Lib.hid hrcB
        have hFcP : Hid (∀ a, AcP = some a → g + 1 ≤ a.block) := fun a ha => by have := hAcP a ha; have := HBX5.out.1; omega
        have HXcP := Lib.hid hxcP
        have HRRcP := Lib.hid hrcP
        have HRRcS := Lib.hid (HRS.out.below hb6)
        have HBX6 := Lib.hid (HBX5.out.below hb6 HBX5.out.1)
        have t6 : Touch (fun x => x = g) w w6 := t5.one (Touch.of hb6)
        clear hh hb6 ho6 ho6b hxcB hxcP hrcB hrcP hAcB hAcP
        go_wp2_with (refine wpList_store_box rfl 28 _ _ rfl g 11 [.int .i64 ca, .int .i64 cr, .slice AcB cB.length ccB, .slice AcP cP.length ccP] [.int .i64 k, .int .i64 f, .int .i64 t, .int .i64 0, .int .i64 0, .int .i64 0, .slice none 0 0, .int .i64 0, .int .i64 0, .slice none 0 0, .slice none 0 0, .int .i64 0, .int .i64 0, .slice none 0 0, .slice none 0 0, .int .i64 y, .slice AcS cS.length ccS, .slice none 0 0] [.int .i64 k, .int .i64 f, .int .i64 t, .int .i64 0, .int .i64 0, .int .i64 0, .slice none 0 0, .int .i64 0, .int .i64 0, .slice none 0 0, .slice none 0 0, .int .i64 ca, .int .i64 cr, .slice AcB cB.length ccB, .slice AcP cP.length ccP, .int .i64 y, .slice AcS cS.length ccS, .slice none 0 0] rfl rfl HBX6.out (by simp) rfl size_hdr rfl ?_)
        intro w7 bx7 T7
        have T7 := T7 (fun x => x = g) rfl
        have t7 : Touch (fun x => x = g) w w7 := t6.one T7
        have hrcB : Rd w7 AcB (i64s cB) := HRRcB.out.touch T7 (past_ne hFcB.out)
        have hrcP : Rd w7 AcP (i64s cP) := HRRcP.out.touch T7 (past_ne hFcP.out)
        have hrcS : Rd w7 AcS (i64s cS) := HRRcS.out.touch T7 (past_ne HFS.out)
        have HBX7 := Lib.hid bx7
        clear bx7 T7
        go_wp2_with fail
        go_ret
        exact ⟨t7, rd_yes (a := { zeroA with AcB := AcB, ncB := cB.length, ccB := ccB, AcP := AcP, ncP := cP.length, ccP := ccP, AcS := AcS, ncS := cS.length, ccS := ccS }) HYES.out rfl HBX7.out (msgIn_c hrcB hkcB HXcB.out hrcP hkcP HXcP.out hrcS hkcS HXS.out) ⟨past_none _, past_none _, past_none _, hFcB.out, hFcP.out, HFS.out, past_none _⟩⟩
  have n6 := Lib.hid hk
  have e6 : (k == 6) = false := by simp [hk]
  clear hk
  by_cases hk : k = 7
  · have e1 : (k == 1) = false := by simp [hk]
    have e3 : (k == 3) = false := by simp [hk]
    have e2 : (k == 2) = false := by simp [hk]
    have e5 : (k == 5) = false := by simp [hk]
    have e4 : (k == 4) = false := by simp [hk]
    have e6 : (k == 6) = false := by simp [hk]
    have e7 : (k == 7) = true := by simp [hk]
    have e8 : (k == 8) = false := by simp [hk]
    have HD : Hid (restD k f t zs = rdWan k f t zs) := by show restD k f t zs = _; exact restD_wan (by omega)
    clear hk
    go_wp2_with fail
    refine (cutList_any A c n zs 3 sz_three 3 rfl _ HZ.out hr hy hc HCM.out hn).mono ?_
    rintro e w2 ⟨hb2, hgot⟩
    have bx2 := HBX.out.below hb2 HBX.out.1
    have xa := (bx2.2 17 _ rfl).1
    have xf := (bx2.2 17 _ rfl).2
    cases hp : cutL 3 zs with
    | none =>
      rw [hp] at hgot
      simp only [CutGot] at hgot
      subst hgot
      have HNO : Hid (restD k f t zs = none) := by show restD k f t zs = none; rw [HD.out, rdWan, hp]; rfl
      have t3 : Touch (fun x => x = g) w (w2.setCell ⟨g, 17, none⟩ (.slice none 0 0)) := (Touch.of hb2).at_g _
      clear hp
      go_wp2_with fail
      go_ret
      exact ⟨t3, rd_no HNO.out rfl⟩
    | some q =>
      obtain ⟨D, r⟩ := q
      rw [hp] at hgot
      obtain ⟨AD, cD, Ar, cr, rfl, ho, _, _, _, _⟩ := hgot
      obtain ⟨A5, c5, hv5, hkD, hxD, hrD, hAD, _⟩ := own_val ho
      cases hv5
      have hFD : ∀ a, AD = some a → g + 1 ≤ a.block := fun a ha => by have := hAD a ha; have := HBX.out.1; omega
      obtain ⟨w3, hw3⟩ : ∃ w3, w3 = w2.setCell ⟨g, 17, none⟩ (.slice AD D.length cD) := ⟨_, rfl⟩
      have bx3 : Box w3 g [.int .i64 k, .int .i64 f, .int .i64 t, .int .i64 0, .int .i64 0, .int .i64 0, .slice none 0 0, .int .i64 0, .int .i64 0, .slice none 0 0, .slice none 0 0, .int .i64 0, .int .i64 0, .slice none 0 0, .slice none 0 0, .int .i64 0, .slice none 0 0, .slice AD D.length cD] := by rw [hw3]; exact bx2.set (j := 17) (by simp [msgC])
      have T3 : Touch (fun x => x = g) w2 w3 := by rw [hw3]; exact (Touch.refl _ _).at_g _
      have t3 : Touch (fun x => x = g) w w3 := (Touch.of hb2).one T3
      have hrD : Rd w3 AD (i64s D) := hrD.touch T3 (past_ne hFD)
      have HW3 := Lib.hid hw3
      have HBX3 := Lib.hid bx3
      have HXD := Lib.hid hxD
      have HFD := Lib.hid hFD
      obtain ⟨n2, hn2⟩ : ∃ n2, r.length = n2 := ⟨_, rfl⟩
      rw [hn2]
      have HN2 := Lib.hid hn2
      have HP := Lib.hid hp
      clear hp hw3 bx3 T3 bx2 ho hAD hFD hxD hn2
      by_cases hl : n2 = 0
      · have hz0 : r = [] := List.eq_nil_of_length_eq_zero (by rw [HN2.out]; exact hl)
        have HYES : Hid (restD k f t zs = some { zeroM with k := k, f := f, t := t, D := D }) := by show restD k f t zs = _; rw [HD.out, rdWan, HP.out, Option.bind_some, if_pos hz0]
        subst hl
        go_wp2_with fail
        try rw [← HW3.out]
        go_ret
        exact ⟨t3, rd_yes (a := { zeroA with AD := AD, nD := D.length, cD := cD }) HYES.out (by simp) HBX3.out (msgIn_w hrD hkD HXD.out) ⟨past_none _, past_none _, past_none _, past_none _, past_none _, past_none _, HFD.out⟩⟩
      · have hz0 : ¬ (r = []) := fun h => hl (by rw [← HN2.out, h]; rfl)
        have HNO : Hid (restD k f t zs = none) := by show restD k f t zs = _; rw [HD.out, rdWan, HP.out, Option.bind_some, if_neg hz0]
        have j : ((n2 : Int) == 0) = false := by simp; omega
        clear hl hz0
        go_wp2_with fail
        try rw [← HW3.out]
        go_ret
        exact ⟨t3, rd_no HNO.out (ret_bool (by first | exact j | simp))⟩
  have n7 := Lib.hid hk
  have e7 : (k == 7) = false := by simp [hk]
  clear hk
  by_cases hk : k = 8
  · have e1 : (k == 1) = false := by simp [hk]
    have e3 : (k == 3) = false := by simp [hk]
    have e2 : (k == 2) = false := by simp [hk]
    have e5 : (k == 5) = false := by simp [hk]
    have e4 : (k == 4) = false := by simp [hk]
    have e6 : (k == 6) = false := by simp [hk]
    have e7 : (k == 7) = false := by simp [hk]
    have e8 : (k == 8) = true := by simp [hk]
    have HD : Hid (restD k f t zs = rdWan k f t zs) := by show restD k f t zs = _; exact restD_wan (by omega)
    clear hk
    go_wp2_with fail
    refine (cutList_any A c n zs 3 sz_three 3 rfl _ HZ.out hr hy hc HCM.out hn).mono ?_
    rintro e w2 ⟨hb2, hgot⟩
    have bx2 := HBX.out.below hb2 HBX.out.1
    have xa := (bx2.2 17 _ rfl).1
    have xf := (bx2.2 17 _ rfl).2
    cases hp : cutL 3 zs with
    | none =>
      rw [hp] at hgot
      simp only [CutGot] at hgot
      subst hgot
      have HNO : Hid (restD k f t zs = none) := by show restD k f t zs = none; rw [HD.out, rdWan, hp]; rfl
      have t3 : Touch (fun x => x = g) w (w2.setCell ⟨g, 17, none⟩ (.slice none 0 0)) := (Touch.of hb2).at_g _
      clear hp
      go_wp2_with fail
      go_ret
      exact ⟨t3, rd_no HNO.out rfl⟩
    | some q =>
      obtain ⟨D, r⟩ := q
      rw [hp] at hgot
      obtain ⟨AD, cD, Ar, cr, rfl, ho, _, _, _, _⟩ := hgot
      obtain ⟨A5, c5, hv5, hkD, hxD, hrD, hAD, _⟩ := own_val ho
      cases hv5
      have hFD : ∀ a, AD = some a → g + 1 ≤ a.block := fun a ha => by have := hAD a ha; have := HBX.out.1; omega
      obtain ⟨w3, hw3⟩ : ∃ w3, w3 = w2.setCell ⟨g, 17, none⟩ (.slice AD D.length cD) := ⟨_, rfl⟩
      have bx3 : Box w3 g [.int .i64 k, .int .i64 f, .int .i64 t, .int .i64 0, .int .i64 0, .int .i64 0, .slice none 0 0, .int .i64 0, .int .i64 0, .slice none 0 0, .slice none 0 0, .int .i64 0, .int .i64 0, .slice none 0 0, .slice none 0 0, .int .i64 0, .slice none 0 0, .slice AD D.length cD] := by rw [hw3]; exact bx2.set (j := 17) (by simp [msgC])
      have T3 : Touch (fun x => x = g) w2 w3 := by rw [hw3]; exact (Touch.refl _ _).at_g _
      have t3 : Touch (fun x => x = g) w w3 := (Touch.of hb2).one T3
      have hrD : Rd w3 AD (i64s D) := hrD.touch T3 (past_ne hFD)
      have HW3 := Lib.hid hw3
      have HBX3 := Lib.hid bx3
      have HXD := Lib.hid hxD
      have HFD := Lib.hid hFD
      obtain ⟨n2, hn2⟩ : ∃ n2, r.length = n2 := ⟨_, rfl⟩
      rw [hn2]
      have HN2 := Lib.hid hn2
      have HP := Lib.hid hp
      clear hp hw3 bx3 T3 bx2 ho hAD hFD hxD hn2
      by_cases hl : n2 = 0
      · have hz0 : r = [] := List.eq_nil_of_length_eq_zero (by rw [HN2.out]; exact hl)
        have HYES : Hid (restD k f t zs = some { zeroM with k := k, f := f, t := t, D := D }) := by show restD k f t zs = _; rw [HD.out, rdWan, HP.out, Option.bind_some, if_pos hz0]
        subst hl
        go_wp2_with fail
        try rw [← HW3.out]
        go_ret
        exact ⟨t3, rd_yes (a := { zeroA with AD := AD, nD := D.length, cD := cD }) HYES.out (by simp) HBX3.out (msgIn_w hrD hkD HXD.out) ⟨past_none _, past_none _, past_none _, past_none _, past_none _, past_none _, HFD.out⟩⟩
      · have hz0 : ¬ (r = []) := fun h => hl (by rw [← HN2.out, h]; rfl)
        have HNO : Hid (restD k f t zs = none) := by show restD k f t zs = _; rw [HD.out, rdWan, HP.out, Option.bind_some, if_neg hz0]
        have j : ((n2 : Int) == 0) = false := by simp; omega
        clear hl hz0
        go_wp2_with fail
        try rw [← HW3.out]
        go_ret
        exact ⟨t3, rd_no HNO.out (ret_bool (by first | exact j | simp))⟩
  have n8 := Lib.hid hk
  have e8 : (k == 8) = false := by simp [hk]
  clear hk
  have HNO : Hid (restD k f t zs = none) := by
    show restD k f t zs = none
    unfold restD
    rw [if_neg (by rintro (h | h); exact n1.out h; exact n3.out h), if_neg (by rintro (h | h); exact n2.out h; exact n5.out h), if_neg n4.out, if_neg n6.out, if_neg (by rintro (h | h); exact n7.out h; exact n8.out h)]
  go_wp2_with fail
  go_ret
  exact ⟨Touch.refl _ _, rd_no HNO.out rfl⟩

end Go.Proofs.Ytafkcofocjellaa
