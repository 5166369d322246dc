/-
  Package header's Bytes.
-/
import Derived.Test.YtcfnomnhameleaaHRise
import Derived.Deep.AppendLies
namespace Go.Proofs.Ytcfnomnhameleaa
open Go.RowKit

/-- append of one, and where the row lies -/
theorem wpList_app_row {P : Program} (w : World) {ops : Array Oper} {rest : List Oper} {o : Oper} {a : Act} {Q : Exit → Act → World → Prop} (hgd : o.guard = none) (s x : Operand) (t : TypeId)
    (ho : o.op = .call { callee := .builtin .append, args := #[s, x], argTypes := #[t, t] })
    (B : Nat) (e : TypeId) (z : Value) (bytes : Nat) (ht : P.underlying t = some (.slice e)) (hinfo : (P.info? e).map (fun i => (i.zero, i.size, i.bytes)) = some (some z, 1, bytes)) (hzs : z.cells.size = 1) (hby : bytes ≤ 16)
    (v : Value) (n : Nat) (xs : List Value) (hs : a.eval s = v) (hown : w.ownsRow B e 1 v n xs)
    (g : Nat) (u : Value) (hx : a.eval x = .slice (some ⟨g, 0, none⟩) 1 1) (hc : w.cell? ⟨g, 0, none⟩ = some u) (h1 : u.oneCell' = true)
    (hn : n + 1 ≤ 1099511627776) (hB : B ≤ w.heap.size) (H : Nat) (hH : w.heap.size = H)
    (h : ∀ R cap w', w'.ownsRow B e 1 (.slice (some ⟨R, 0, none⟩) (n + 1) cap) (n + 1) (xs ++ [u]) → Below B w w' → w.grownBy w' v.ownBlock → (v.ownBlock = some R ∨ R = H) → R < w'.heap.size → wpList P ops Q rest (a.put o.dst (.slice (some ⟨R, 0, none⟩) (n + 1) cap)) w') : wpList P ops Q (o :: rest) a w := by
  obtain ⟨i, hi, hz, hsize, hbytes⟩ := info_parts hinfo
  refine wpList_append_lies (P := P) w hgd s x t ho B e i z 1 bytes ht hi hz hsize hbytes hzs (by decide) v n xs hs hown ⟨g, 0, none⟩ 1 1 [u] hx rfl ?_ ?_ (by omega) (by unfold maxLen; omega) ?_ hB H hH ?_
  · intro j y hj
    match j with
    | 0 =>
      simp only [List.getElem?_cons_zero, Option.some.injEq] at hj
      subst hj
      rw [Addr.add_lit]
      exact hc
    | j + 1 => simp at hj
  · intro y hy
    simp only [List.mem_singleton] at hy
    subst hy
    exact h1
  · have := Nat.mul_le_mul hn hby
    omega
  · intro R cap w' hown' hg hl hlt
    exact h R cap w' hown' (below_own (Below.refl _ _) hown hg hB) hg hl hlt

/-- two cells of a block that the row is not -/
def Two (w : World) (g : Nat) (u0 u1 : Value) : Prop := w.cell? ⟨g, 0, none⟩ = some u0 ∧ w.cell? ⟨g, 1, none⟩ = some u1
theorem two_new (w : World) (u0 u1 : Value) (t : TypeId) : Two (w.alloc (.cells #[u0, u1] t)) w.heap.size u0 u1 := by
  constructor
  all_goals
    rw [World.cell?_alloc_at _ _ _ _ rfl]
    rfl
theorem Two.lt {w : World} {g : Nat} {u0 u1 : Value} (h : Two w g u0 u1) : g < w.heap.size := World.block_lt_of_cell? w _ h.1
theorem Two.below {w w' : World} {g : Nat} {u0 u1 : Value} (h : Two w g u0 u1) (hb : Below w.heap.size w w') : Two w' g u0 u1 :=
  ⟨(hb.cell (p := ⟨g, 0, none⟩) h.lt).trans h.1, (hb.cell (p := ⟨g, 1, none⟩) h.lt).trans h.2⟩
theorem Two.far {w w' : World} {g R n c : Nat} {u0 u1 : Value} (h : Two w g u0 u1) (hg : w.grownBy w' (Value.slice (some ⟨R, 0, none⟩) n c).ownBlock) (hne : R ≠ g) : Two w' g u0 u1 :=
  ⟨hg.cell h.1 (by show some g ≠ some R; simp; omega), hg.cell h.2 (by show some g ≠ some R; simp; omega)⟩
theorem Two.at_ {w : World} {g : Nat} {u0 u1 : Value} (h : Two w g u0 u1) {j : Nat} (hj : j < 2) : ∃ u, w.cell? ⟨g, j, none⟩ = some u ∧ ((j = 0 ∧ u = u0) ∨ (j = 1 ∧ u = u1)) := by
  match j, hj with
  | 0, _ => exact ⟨u0, h.1, .inl ⟨rfl, rfl⟩⟩
  | 1, _ => exact ⟨u1, h.2, .inr ⟨rfl, rfl⟩⟩
theorem not_lies {g R R' n c H : Nat} (h : (Value.slice (some ⟨R, 0, none⟩) n c).ownBlock = some R' ∨ R' = H) (h1 : R ≠ g) (h2 : g < H) : R' ≠ g := by
  rcases h with h | h
  · have e : R = R' := Option.some.inj h
    omega
  · omega

theorem headTexts_at (a r : Int) (B P : List Int) : (headTexts a r B P)[0]? = some headW ∧ (headTexts a r B P)[1]? = some (numT a) ∧ (headTexts a r B P)[2]? = some (numT r) ∧ (headTexts a r B P)[3]? = some (numsT B) ∧ (headTexts a r B P)[4]? = some (numsT P) := ⟨rfl, rfl, rfl, rfl, rfl⟩
/-- one text more -/
theorem texts_next {T : List ByteArray} {k : Nat} {s : ByteArray} (h : T[k]? = some s) : strs (T.take k) ++ [.string s] = strs (T.take (k + 1)) := by
  rw [take_one h, strs_append]; rfl
theorem numT_vnum (m : Nat) : strOfNums (vnum m) = numT (m : Int) := by simp [numT]
theorem numsT_put {l : List Int} {L : List Nat} (h : l = nats L) : strOfNums (putNums L) = numsT l := by
  subst h
  rw [numsT, toN_nats]
theorem putNums_pos (L : List Nat) : 0 < (putNums L).length := by
  have := vnum_pos L.length
  rw [putNums, List.length_append]
  omega
theorem nats_of {l : List Int} (h : ∀ x ∈ l, 1 ≤ x ∧ x ≤ 65536) (hl : (l.length : Int) ≤ 16) : ∃ L : List Nat, l = nats L ∧ (∀ m ∈ L, m < 9223372036854775808) ∧ (putNums L).length ≤ 1048576 :=
  ⟨toN l, (nats_toN fun x hx => by have := h x hx; omega).symm, toN_small h, by
    have := putNums_len (toN_small h) (by rw [toN_length]; omega)
    rw [toN_length] at this
    omega⟩

set_option maxRecDepth 100000 in
set_option maxHeartbeats 4000000 in
theorem hbytes_yes (a r : Int) (AB : Option Addr) (cB nB : Nat) (B : List Int) (AP : Option Addr) (cP nP : Nat) (P : List Int) (w : World) (hw : wideB a r B P = true) (hi : HdrIn w AB cB nB B AP cP nP P) :
    Calls Try.prog 70 #[.agg #[.int .i64 a, .int .i64 r, .slice AB nB cB, .slice AP nP cP]] w (Made2 w.heap.size 5 w (u8s (headBytes a r B P)) (.int .i64 0)) := by
  obtain ⟨⟨a0, a1⟩, ⟨r0, r1⟩, ⟨b0, b1⟩, p0, p1⟩ := wide_all hw
  have HI : Hid (isB a r B P 16 0 = true) := (is_wide a r B P).trans hw
  have HF := Lib.hid (head_fit hw)
  obtain ⟨LB, hLB, hLB1, hLB2⟩ := nats_of b1 (by omega)
  obtain ⟨LP, hLP, hLP1, hLP2⟩ := nats_of p1 p0
  have hzB := hi.hB.hz
  have hzP := hi.hP.hz
  have HLB := Lib.hid hLB
  have HLP := Lib.hid hLP
  have HLB1 := Lib.hid hLB1
  have HLP1 := Lib.hid hLP1
  have HNB : Hid (LB.length = nB) := by show LB.length = nB; rw [← hzB, hLB, nats_length]
  have HNP : Hid (LP.length = nP) := by show LP.length = nP; rw [← hzP, hLP, nats_length]
  have hT := headTexts_at a r B P
  obtain ⟨T, hTe⟩ : ∃ T, T = headTexts a r B P := ⟨_, rfl⟩
  rw [← hTe] at hT
  have HTE := Lib.hid hTe
  have HT := Lib.hid hT
  clear hw b1 p1 hLB hLP hLB1 hLP1 hT hTe
  obtain ⟨w1, hw1⟩ : ∃ w1, w1 = w.alloc (.cells #[.int .i64 a, .int .i64 r, .slice AB nB cB, .slice AP nP cP] 38) := ⟨_, rfl⟩
  have hb1 : Below w.heap.size w w1 := by rw [hw1]; exact (Below.refl _ _).alloc (Nat.le_refl _) _
  have HBX := Lib.hid (hbox_new hw1)
  have hi1 := hi.below hb1
  have HRB := Lib.hid hi1.hB.hr
  have HRP := Lib.hid hi1.hP.hr
  have HW := Lib.hid hw1
  have hnB := hi.lB
  have hnP := hi.lP
  clear hw1 hi hzB hzP b0 p0
  go_enter Try.func70, Try.ntmps70
  go_wp2_with fail
  rw [← HW.out]
  obtain ⟨c0, c1, c2, c3⟩ := HBX.out _ (Below.refl _ _)
  go_wp2_with fail
  refine (isHeader_is true a r AB cB nB B AP cP nP P _ _ _ HI.out hi1).mono ?_
  rintro e w2 ⟨rfl, hb2⟩
  clear c0 c1 c2 c3
  go_wp2_with (at_make; refine wpList_make_room _ rfl _ _ 93 rfl w1.heap.size 9 (.string ByteArray.empty) 16 Try.underlying93 info_str (by decide) 5 rfl rfl (by omega) hb2.size ?_)
  intro v3 w3 ho3 hb3
  have hx3 : Below w1.heap.size w1 w3 := hb2.trans hb3
  go_wp2_with (at_builtin; refine wpList_app_row _ rfl _ _ 93 rfl w1.heap.size 9 (.string ByteArray.empty) 16 Try.underlying93 info_str rfl (by decide) _ 0 _ rfl (ho3.alloc _) w3.heap.size (.string headW) rfl (cell_new _ _ _) rfl (by omega) (by have := hx3.size; simp; omega) (w3.heap.size + 1) (by simp) ?_)
  intro R4 cap4 w4 ho4 hb4 _ _ hlt4
  have hx4 : Below w1.heap.size w1 w4 := (hx3.alloc hx3.size _).trans hb4
  have ho4' : w4.ownsRow w1.heap.size 9 1 (.slice (some ⟨R4, 0, none⟩) (0 + 1) cap4) (1 + 0) (strs (T.take (1 + 0))) := by
    rw [List.take_one]; rw [show T.head? = some headW by rw [List.head?_eq_getElem?]; exact HT.out.1]; exact ho4
  obtain ⟨c0, c1, c2, c3⟩ := HBX.out _ hx4
  clear c2 c3 ho3 hb3 hb4 hb2 ho4 hx3
  go_wp2_with fail
  clear c0 c1
  go_loopw [4, 26] (fun v i wr => ∃ (j R cap : Nat), i = .int .i64 j ∧ v = .slice (some ⟨R, 0, none⟩) (1 + j) cap ∧ j ≤ 2 ∧ wr.ownsRow w1.heap.size 9 1 (.slice (some ⟨R, 0, none⟩) (1 + j) cap) (1 + j) (strs (T.take (1 + j))) ∧ Below w1.heap.size w1 wr ∧ Two wr w4.heap.size (.int .i64 a) (.int .i64 r) ∧ R ≠ w4.heap.size) (fun _ i _ => 2 - (intOf i).toNat)
  case atStart => exact ⟨0, R4, cap4, rfl, rfl, by omega, ho4'.alloc _, hx4.alloc hx4.size _, two_new _ _ _ _, by omega⟩
  case round =>
    obtain ⟨j, R, cap, rfl, rfl, hj, ho, hb, hT2, hne⟩ := hrel
    by_cases hlt : j < 2
    · obtain ⟨m, hmc, hm63, hTm⟩ : ∃ m : Nat, wr.cell? ⟨w4.heap.size, j, none⟩ = some (.int .i64 (m : Int)) ∧ m < 9223372036854775808 ∧ T[1 + j]? = some (numT (m : Int)) := by
        obtain ⟨u, hu, ⟨rfl, rfl⟩ | ⟨rfl, rfl⟩⟩ := hT2.at_ hlt
        · have e : ((a.toNat : Nat) : Int) = a := Int.toNat_of_nonneg (by omega)
          exact ⟨a.toNat, by rw [e]; exact hu, by omega, by rw [e]; exact HT.out.2.1⟩
        · have e : ((r.toNat : Nat) : Int) = r := Int.toNat_of_nonneg (by omega)
          exact ⟨r.toNat, by rw [e]; exact hu, by omega, by rw [e]; exact HT.out.2.2.1⟩
      have HTM := Lib.hid hTm
      have hpos := vnum_pos m
      obtain ⟨K, hK⟩ : ∃ K, (vnum m).length = K := ⟨_, rfl⟩
      rw [hK] at hpos
      have HK := Lib.hid hK
      have i0 : (0 : Int) ≤ (j : Int) := by omega
      have i1 : (j : Int) < 2 := by omega
      clear hTm hK
      go_wp2_with fail
      refine (num_yes m _ hm63).mono ?_
      rintro e w5 ⟨v5, rfl, ho5, hb5⟩
      have ho5b := own_cast ho5 ((u8s_length _).trans HK.out)
      obtain ⟨A5, c5, rfl, _, _, hr5, _, hl5⟩ := own_val ho5b
      clear hl5 ho5 ho5b
      have hcv := fun c => conv_rd (P := Try.prog) w5 HK.out hpos hr5 60 5 9 Try.underlying60 Try.underlying5 Try.underlying9 c
      have ho6 := own_below ho hb5
      have hT5 := hT2.below hb5
      have hx5 : Below w1.heap.size w1 w5 := hb.trans (hb5.mono hb.size)
      go_wp2_with (at_builtin; refine wpList_app_row _ rfl _ _ 93 rfl w1.heap.size 9 (.string ByteArray.empty) 16 Try.underlying93 info_str rfl (by decide) _ (1 + j) _ rfl (ho6.alloc _) w5.heap.size (.string (strOfNums (vnum m))) rfl (cell_new _ _ _) rfl (by omega) (by have := hx5.size; simp; omega) (w5.heap.size + 1) (by simp) ?_)
      intro R6 cap6 w6 ho7 hb7 hg7 hl7 hlt7
      have hT7 := (hT5.below ((Below.refl _ _).alloc (Nat.le_refl _) (.cells #[.string (strOfNums (vnum m))] 9))).far hg7 hne
      have hne7 := not_lies hl7 hne (by have := hT5.lt; omega)
      have hx7 : Below w1.heap.size w1 w6 := (hx5.alloc hx5.size _).trans hb7
      have ho8 : w6.ownsRow w1.heap.size 9 1 (.slice (some ⟨R6, 0, none⟩) (1 + (j + 1)) cap6) (1 + (j + 1)) (strs (T.take (1 + (j + 1)))) := by
        have e := texts_next HTM.out
        rw [← numT_vnum] at e
        rw [show 1 + (j + 1) = 1 + j + 1 by omega, ← e]
        exact ho7
      clear ho7 hg7 hl7 hcv hr5 ho6 ho hT2 hT5 hb7 hb5
      go_wp2_with fail
      go_roundw
      case rel => exact ⟨j + 1, R6, cap6, by go_num, rfl, by omega, ho8, hx7, hT7, hne7⟩
      case measure => simp [intOf]; omega
    · obtain ⟨wq, rfl⟩ : ∃ wq, wq = wr := ⟨_, rfl⟩
      have hj2 : 1 + j = 3 + 0 := by omega
      have HJ := Lib.hid hj2
      have i1 : ¬ ((j : Int) < 2) := by omega
      obtain ⟨c0, c1, c2, c3⟩ := HBX.out _ hb
      have hltR := (ho.lt R rfl).2
      clear c0 c1 hT2 hlt hj hj2
      go_wp2_with fail
      clear c2 c3
      go_loopw [4, 47] (fun v i wz => ∃ (j R cap : Nat), i = .int .i64 j ∧ v = .slice (some ⟨R, 0, none⟩) (3 + j) cap ∧ j ≤ 2 ∧ wz.ownsRow w1.heap.size 9 1 (.slice (some ⟨R, 0, none⟩) (3 + j) cap) (3 + j) (strs (T.take (3 + j))) ∧ Below w1.heap.size w1 wz ∧ Two wz wq.heap.size (.slice AB nB cB) (.slice AP nP cP) ∧ R ≠ wq.heap.size) (fun _ i _ => 2 - (intOf i).toNat)
      case atStart => exact ⟨0, R, cap, rfl, by rw [HJ.out], by omega, (by have h := ho.alloc (.cells #[.slice AB nB cB, .slice AP nP cP] 22); rw [HJ.out] at h; exact h), hb.alloc hb.size _, two_new _ _ _ _, by omega⟩
      case round =>
        clear hltR ho
        have hsz := hb.size
        clear hb hne
        obtain ⟨j, R, cap, rfl, rfl, hj, ho, hb, hT2, hne⟩ := hrel
        by_cases hlt : j < 2
        · obtain ⟨A, n, c, L, hmc, hz, hr, h63, hfit, hTm, hn⟩ : ∃ (A : Option Addr) (n c : Nat) (L : List Nat), wr.cell? ⟨wq.heap.size, j, none⟩ = some (.slice A n c) ∧ L.length = n ∧ Rd wr A (i64s (nats L)) ∧ (∀ m ∈ L, m < 9223372036854775808) ∧ (putNums L).length ≤ 1048576 ∧ T[3 + j]? = some (strOfNums (putNums L)) ∧ n ≤ 1048576 := by
            obtain ⟨u, hu, ⟨rfl, rfl⟩ | ⟨rfl, rfl⟩⟩ := hT2.at_ hlt
            · exact ⟨AB, nB, cB, LB, hu, HNB.out, by rw [← HLB.out]; exact HRB.out.below hb, HLB1.out, hLB2, by rw [numsT_put HLB.out]; exact HT.out.2.2.2.1, by omega⟩
            · exact ⟨AP, nP, cP, LP, hu, HNP.out, by rw [← HLP.out]; exact HRP.out.below hb, HLP1.out, hLP2, by rw [numsT_put HLP.out]; exact HT.out.2.2.2.2, by omega⟩
          have HTM := Lib.hid hTm
          have HZ := Lib.hid hz
          have H63 := Lib.hid h63
          have hpos := putNums_pos L
          obtain ⟨K, hK⟩ : ∃ K, (putNums L).length = K := ⟨_, rfl⟩
          have HFI := Lib.hid hfit
          rw [hK] at hpos
          have HK := Lib.hid hK
          have i0 : (0 : Int) ≤ (j : Int) := by omega
          have i1 : (j : Int) < 2 := by omega
          clear hTm hK hz h63 hfit
          go_wp2_with fail
          refine (nums_yes A c n L _ HZ.out hr hn H63.out HFI.out).mono ?_
          rintro e w5 ⟨v5, rfl, ho5, hb5⟩
          have ho5b := own_cast ho5 ((u8s_length _).trans HK.out)
          obtain ⟨A5, c5, rfl, _, _, hr5, _, hl5⟩ := own_val ho5b
          clear hl5 ho5 ho5b
          have hcv := fun c => conv_rd (P := Try.prog) w5 HK.out hpos hr5 60 5 9 Try.underlying60 Try.underlying5 Try.underlying9 c
          have ho6 := own_below ho hb5
          have hT5 := hT2.below hb5
          have hx5 : Below w1.heap.size w1 w5 := hb.trans (hb5.mono hb.size)
          go_wp2_with (at_builtin; refine wpList_app_row _ rfl _ _ 93 rfl w1.heap.size 9 (.string ByteArray.empty) 16 Try.underlying93 info_str rfl (by decide) _ (3 + j) _ rfl (ho6.alloc _) w5.heap.size (.string (strOfNums (putNums L))) rfl (cell_new _ _ _) rfl (by omega) (by have := hx5.size; simp; omega) (w5.heap.size + 1) (by simp) ?_)
          intro R6 cap6 w6 ho7 hb7 hg7 hl7 hlt7
          have hT7 := (hT5.below ((Below.refl _ _).alloc (Nat.le_refl _) (.cells #[.string (strOfNums (putNums L))] 9))).far hg7 hne
          have hne7 := not_lies hl7 hne (by have := hT5.lt; omega)
          have hx7 : Below w1.heap.size w1 w6 := (hx5.alloc hx5.size _).trans hb7
          have ho8 : w6.ownsRow w1.heap.size 9 1 (.slice (some ⟨R6, 0, none⟩) (3 + (j + 1)) cap6) (3 + (j + 1)) (strs (T.take (3 + (j + 1)))) := by
            have e := texts_next HTM.out
            rw [show 3 + (j + 1) = 3 + j + 1 by omega, ← e]
            exact ho7
          clear ho7 hg7 hl7 hcv hr5 ho6 ho hT2 hT5 hb7 hb5 hr
          go_wp2_with fail
          go_roundw
          case rel => exact ⟨j + 1, R6, cap6, by go_num, rfl, by omega, ho8, hx7, hT7, hne7⟩
          case measure => simp [intOf]; omega
        · have HJ2 := Lib.hid (show 3 + j = 5 by omega)
          have i1 : ¬ ((j : Int) < 2) := by omega
          have hall : T.take (3 + j) = headTexts a r B P := by rw [HJ2.out, HTE.out]; rfl
          rw [hall] at ho
          obtain ⟨A8, c8, hv8, _, _, hr8, _, _⟩ := own_val ho
          cases hv8
          clear ho hT2 hall
          go_wp2_with fail
          refine (put_yes _ _ (3 + j) (headTexts a r B P) _ HJ2.out.symm hr8 (by omega) HF.out).mono ?_
          rintro e w9 ⟨v9, rfl, ho9, hb9⟩
          go_wp2_with fail
          go_ret2
          exact ⟨v9, rfl, own_more ho9 (by have := hb1.size; have := hb.size; omega), hb1.trans ((hb.trans (hb9.mono hb.size)).mono hb1.size)⟩

theorem hbytes_no (a r : Int) (AB : Option Addr) (cB nB : Nat) (B : List Int) (AP : Option Addr) (cP nP : Nat) (P : List Int) (w : World) (hw : wideB a r B P = false) (hi : HdrIn w AB cB nB B AP cP nP P) :
    Calls Try.prog 70 #[.agg #[.int .i64 a, .int .i64 r, .slice AB nB cB, .slice AP nP cP]] w (Tells w.heap.size w (.tuple #[.slice none 0 0, .int .i64 1])) := by
  have HI : Hid (isB a r B P 16 0 = false) := (is_wide a r B P).trans hw
  clear hw
  obtain ⟨w1, hw1⟩ : ∃ w1, w1 = w.alloc (.cells #[.int .i64 a, .int .i64 r, .slice AB nB cB, .slice AP nP cP] 38) := ⟨_, rfl⟩
  have hb1 : Below w.heap.size w w1 := by rw [hw1]; exact (Below.refl _ _).alloc (Nat.le_refl _) _
  have HBX := Lib.hid (hbox_new hw1)
  have hi1 := hi.below hb1
  have HW := Lib.hid hw1
  clear hw1 hi
  go_enter Try.func70, Try.ntmps70
  go_wp2_with fail
  rw [← HW.out]
  obtain ⟨c0, c1, c2, c3⟩ := HBX.out _ (Below.refl _ _)
  go_wp2_with fail
  refine (isHeader_is false a r AB cB nB B AP cP nP P _ _ _ HI.out hi1).mono ?_
  rintro e w2 ⟨rfl, hb2⟩
  have hb3 := hb1.trans (hb2.mono hb1.size)
  go_wp2_with fail
  go_ret2
  exact ⟨rfl, hb3⟩

end Go.Proofs.Ytcfnomnhameleaa
