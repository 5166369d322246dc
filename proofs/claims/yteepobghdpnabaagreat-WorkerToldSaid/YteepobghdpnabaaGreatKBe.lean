/-
 Headers and certificates: copies, comparisons, the writing over of answers, their weights.
-/
import Derived.Deep.DeepCutAuto
import Derived.Deep.CutRange
import Derived.Deep.RegionLaw
import Derived.Test.YteepobghdpnabaaGreatKBb
import Derived.Test.YteepobghdpnabaaGreatKBc
import Derived.Test.YteepobghdpnabaaGreatKBd
namespace Go.Proofs.YteepobghdpnabaaGreat
open Go.RowKit

theorem bcellH {W w1 : World} (hb : Below W.heap.size W w1) : (∀ b o, b < W.heap.size → w1.cell? ⟨b, o, none⟩ = W.cell? ⟨b, o, none⟩) ∧ (∀ b o, b < W.heap.size → w1.frozen? ⟨b, o, none⟩ = W.frozen? ⟨b, o, none⟩) :=
 ⟨fun b o h => hb.cell (p := ⟨b, o, none⟩) h, fun b o h => hb.frozen (p := ⟨b, o, none⟩) h⟩

/-! ### comparisons -/
set_option maxHeartbeats 2000000 in
theorem reqHdr_is (b : Bool) (a r : Int) (AB : Option Addr) (cB nB : Nat) (B : List Int) (AP : Option Addr) (cP nP : Nat) (P : List Int) (a' r' : Int) (AB' : Option Addr) (cB' nB' : Nat) (B' : List Int) (AP' : Option Addr) (cP' nP' : Nat) (P' : List Int) (w : World) (h : eqHdr a r B P a' r' B' P' = b) (hzB : B.length = nB) (hrB : Rd w AB (i64s B)) (hnB : nB ≤ 1073741824) (hzP : P.length = nP) (hrP : Rd w AP (i64s P)) (hnP : nP ≤ 1073741824) (hzB' : B'.length = nB') (hrB' : Rd w AB' (i64s B')) (hnB' : nB' ≤ 1073741824) (hzP' : P'.length = nP') (hrP' : Rd w AP' (i64s P')) (hnP' : nP' ≤ 1073741824) :
  Calls Tryz.prog 104 #[.agg #[.int .i64 a, .int .i64 r, .slice AB nB cB, .slice AP nP cP], .agg #[.int .i64 a', .int .i64 r', .slice AB' nB' cB', .slice AP' nP' cP']] w (Tells w.heap.size w (.bool b)) := by
 subst h
 have HZB := Lib.hid hzB
 have HZP := Lib.hid hzP
 have HZB' := Lib.hid hzB'
 have HZP' := Lib.hid hzP'
 clear hzB hzP hzB' hzP'
 have hb3 : Below w.heap.size w ((w.alloc (.cells #[.int .i64 a, .int .i64 r, .slice AB nB cB, .slice AP nP cP] 44)).alloc (.cells #[.int .i64 a', .int .i64 r', .slice AB' nB' cB', .slice AP' nP' cP'] 44)) := ((Below.refl _ _).alloc (Nat.le_refl _) _).alloc (by simp) _
 by_cases g1 : a = a'
 ·by_cases g2 : r = r'
  ·have j1 : (a == a') = true := by simp [g1]
   have j2 : (r == r') = true := by simp [g2]
   cases hB : decide (B = B') with
   | false =>
    have HV : Hid (eqHdr a r B P a' r' B' P' = false) := by show eqHdr a r B P a' r' B' P' = false; rw [eqHdr, decide_eq_false_iff_not]; exact fun h => (of_decide_eq_false hB) h.2.2.1
    have HB := Lib.hid hB
    clear hB g1 g2
    go_enter Tryz.func104, Tryz.ntmps104
    go_wp2_with fail
    refine (eqNumbers_any AB AB' cB cB' nB nB' B B' _ HZB.out HZB'.out ((hrB.alloc _).alloc _) ((hrB'.alloc _).alloc _) hnB hnB').mono ?_
    rintro e w1 ⟨rfl, dB, rfl⟩
    rw [HB.out]
    go_wp2_with fail
    go_ret
    exact ⟨ret_boolH (by rw [HV.out]; first | done | rfl | simp), below_n hb3 _⟩
   | true =>
    have HV : Hid (eqHdr a r B P a' r' B' P' = decide (P = P')) := by show eqHdr a r B P a' r' B' P' = decide (P = P'); have hB' := of_decide_eq_true hB; rw [eqHdr, decide_eq_decide]; exact ⟨fun h => h.2.2.2, fun h => ⟨g1, g2, hB', h⟩⟩
    have HB := Lib.hid hB
    clear hB g1 g2
    go_enter Tryz.func104, Tryz.ntmps104
    go_wp2_with fail
    refine (eqNumbers_any AB AB' cB cB' nB nB' B B' _ HZB.out HZB'.out ((hrB.alloc _).alloc _) ((hrB'.alloc _).alloc _) hnB hnB').mono ?_
    rintro e w1 ⟨rfl, dB, rfl⟩
    rw [HB.out]
    go_wp2_with fail
    refine (eqNumbers_any AP AP' cP cP' nP nP' P P' _ HZP.out HZP'.out (((hrP.alloc _).alloc _).drewN _) (((hrP'.alloc _).alloc _).drewN _) hnP hnP').mono ?_
    rintro e w1 ⟨rfl, dP, rfl⟩
    go_wp2_with fail
    go_ret
    exact ⟨ret_boolH (by rw [HV.out]; first | done | rfl | simp), (by first | exact below_n hb3 _ | exact below_n (below_n hb3 _) _)⟩
  ·have HV : Hid (eqHdr a r B P a' r' B' P' = false) := by show eqHdr a r B P a' r' B' P' = false; rw [eqHdr, decide_eq_false_iff_not]; exact fun h => g2 h.2.1
   have j1 : (a == a') = true := by simp [g1]
   have j2 : (r == r') = false := by simp [g2]
   clear g1 g2
   go_enter Tryz.func104, Tryz.ntmps104
   go_wp2_with fail
   go_ret
   exact ⟨ret_boolH (by rw [HV.out]; first | done | rfl | simp), hb3⟩
 ·have HV : Hid (eqHdr a r B P a' r' B' P' = false) := by show eqHdr a r B P a' r' B' P' = false; rw [eqHdr, decide_eq_false_iff_not]; exact fun h => g1 h.1
  have j1 : (a == a') = false := by simp [g1]
  clear g1
  go_enter Tryz.func104, Tryz.ntmps104
  go_wp2_with fail
  go_ret
  exact ⟨ret_boolH (by rw [HV.out]; first | done | rfl | simp), hb3⟩

/-! ### copies -/
/-! ### written over -/
set_option maxHeartbeats 400000 in
theorem spoilNums_far (B : Nat) (v : Value) (n : Nat) (zs : List Int) (w : World) (hown : w.ownsRow B 3 1 v n (i64s zs)) (hn : n ≤ 1073741824) :
  Calls Tryz.prog 108 #[v] w fun e w' => e = .returned (.tuple #[]) ∧ Touch (fun k => v.ownBlock = some k) w w' := by
 obtain ⟨A, c, rfl, hnl, hc, hm, _, _⟩ := own_slice hown
 rw [← hnl] at hown hc ⊢
 unfold maxLen at hm
 have HL : Hid (n = (i64s zs).length) := hnl
 clear hnl
 go_enter Tryz.func108, Tryz.ntmps108
 go_wp2
 go_loopw [2] (fun i wr => ∃ (k : Nat) (ys : List Int), i = .int .i64 k ∧ k ≤ n ∧ wr.ownsRow 0 3 1 (.slice A n c) n (i64s ys) ∧ Touch (fun k => (Value.slice A n c).ownBlock = some k) w wr) (fun i _ => n - (intOf i).toNat)
 case atStart => exact ⟨0, zs, rfl, by omega, own_low hown (fun _ _ => Nat.zero_le _), Touch.refl _ _⟩
 case round =>
  obtain ⟨k, ys, rfl, hk, ho, ht⟩ := hrel
  clear hown
  by_cases hlt : k < n
  ·obtain ⟨g, cap, hv, hBg, hglt⟩ := ho.form (by omega)
   simp only [Value.slice.injEq, true_and] at hv
   obtain ⟨rfl, rfl⟩ := hv
   have hyl : ys.length = n := by have := ho.1; rw [i64s_length] at this; omega
   have hc1 : wr.cell? ⟨g, k, none⟩ = some (.int .i64 (ys[k]?.getD 0)) := by rw [ho.cellAt k (by omega), i64s_at (by omega)]
   have hf1 := ho.frozenAt k
   have HY := Lib.hid hyl
   have HT := Lib.hid ht
   clear hyl ht
   have i0 : (0 : Int) ≤ (k : Int) := by omega
   have i1 : (k : Int) < (n : Int) := by omega
   go_wp2
   go_roundw
   case rel =>
    obtain ⟨s1, s2⟩ := ho.stored k (.int .i64 (-99))
    refine ⟨k + 1, ys.set k (-99), by go_num, by omega, ?_, HT.out.set (.inl rfl) _⟩
    rw [show i64s (ys.set k (-99)) = (i64s ys).set k (.int .i64 (-99)) from by simp [i64s, List.map_set]]
    exact s1
   case measure => simp [intOf]; omega
  ·have i1 : ¬ ((k : Int) < (n : Int)) := by omega
   obtain rfl : k = n := by omega
   have HT := Lib.hid ht
   clear ht
   go_wp2_with (at_builtin; refine wpList_app_lies _ rfl _ _ 25 rfl 0 3 (.int .i64 0) 8 Tryz.underlying25 info_i64 rfl (by decide) _ k _ rfl (ho.alloc _) wr.heap.size (.int .i64 5) rfl (cell_new _ _ _) rfl (by omega) (by omega) ?_)
   intro g' c' w1 hown1 hg1 _
   have hT := (HT.out.alloc (.cells #[.int .i64 5] 3)).trans (Touch.grown (F := fun k' => (Value.slice A k c).ownBlock = some k') hg1 (fun k' e => e)) (fun k' hf => .inl hf)
   go_wp2
   go_end0
   exact ⟨rfl, hT⟩

/-! ### weights -/
theorem rhw_any (a r : Int) (AB : Option Addr) (cB nB : Nat) (AP : Option Addr) (cP nP : Nat) (w : World) (hnB : nB ≤ 140737488351232) (hnP : nP ≤ 140737488351232) :
  Calls Tryz.prog 113 #[.agg #[.int .i64 a, .int .i64 r, .slice AB nB cB, .slice AP nP cP]] w (Tells w.heap.size w (.int .i64 (((1 + nB + nP : Nat) : Int)))) := by
 have s1 : IntKind.i64.wrap (1 + (nB : Int)) = 1 + (nB : Int) := IntWalk.i64_in _ (by omega)
 have s2 : IntKind.i64.wrap (1 + (nB : Int) + (nP : Int)) = 1 + (nB : Int) + (nP : Int) := IntWalk.i64_in _ (by omega)
 go_enter Tryz.func113, Tryz.ntmps113
 go_wp2_with fail
 go_ret
 exact ⟨ret_int (by simp), (Below.refl _ _).alloc (Nat.le_refl _) _⟩


end Go.Proofs.YteepobghdpnabaaGreat
namespace Go.Proofs.YteepobghdpnabaaGreat
open Go.RowKit

/-! ### copies -/
set_option maxHeartbeats 4000000 in
theorem rcopyBat_any (a N : Int) (A : Option Addr) (c n : Nat) (L : List TxD) (w : World) (hz : L.length = n) (hr : Rd w A (txs L)) (hc : n ≤ c) (hn : n ≤ 1073741824) :
  Calls Tryz.prog 87 #[.agg #[.int .i64 a, .int .i64 N, .slice A n c]] w fun e w' => ∃ A' c', e = .returned (.agg #[.int .i64 a, .int .i64 N, .slice A' n c']) ∧
   w'.ownsRow w.heap.size 40 4 (.slice A' n c') n (txs L) ∧ n ≤ c' ∧ c' ≤ maxLen ∧ Rd w' A' (txs L) ∧ Below w.heap.size w w' := by
 have HZ := Lib.hid hz
 clear hz
 go_enter Tryz.func87, Tryz.ntmps87
 go_wp2_with fail
 refine (copyTxs_any A c n L _ HZ.out (((hr.alloc _).alloc _).alloc _) hc hn).mono ?_
 rintro e w1 ⟨v, rfl, hob, hb⟩
 obtain ⟨A', c', rfl, hc', hm', _, _, _⟩ := ownS_slice hob
 obtain ⟨hcc, hff⟩ := bcellH hb
 have hz : w.heap.size + 1 + 1 < w1.heap.size := by have := hb.size; simp at this; omega
 have hz1 : w.heap.size + 1 < w1.heap.size := by omega
 have hb3 : Below w.heap.size w w1 := ((((Below.refl _ _).alloc (Nat.le_refl _) _).alloc (by simp) _).alloc (by simp; omega) _).trans (hb.mono (by simp; omega))
 have hb4 : Below w.heap.size w (w1.setCell ⟨w.heap.size + 1 + 1, 2, none⟩ (.slice A' n c')) := hb3.setCell (by show w.heap.size ≤ w.heap.size + 1 + 1; omega) _
 go_wp2_with fail
 have hown : ∀ u0 u1 u2, ((((w1.setCell ⟨w.heap.size + 1 + 1, 2, none⟩ (.slice A' n c')).setCell ⟨w.heap.size + 1, 0, none⟩ u0).setCell ⟨w.heap.size + 1, 1, none⟩ u1).setCell ⟨w.heap.size + 1, 2, none⟩ u2).ownsRow w.heap.size 40 4 (.slice A' n c') n (txs L) := fun u0 u1 u2 =>
  ownS_more (ownsRow_setCell_below (ownsRow_setCell_below (ownsRow_setCell_below (ownsRow_setCell_below hob (by simp) _) (by simp) _) (by simp) _) (by simp) _) (by simp; omega)
 refine bodyPost_ret (v := .agg #[.int .i64 a, .int .i64 N, .slice A' n c']) (by simp [results, Tryz.results87, go_sem, hcc]) rfl ⟨A', c', rfl, hown _ _ _, hc', hm', ?_, ?_⟩
 ·obtain ⟨_, _, e, _, _, hr', _, _⟩ := ownS_slice (hown _ _ _)
  cases e
  exact hr'
 ·exact ((hb4.setCell (by simp) _).setCell (by simp) _).setCell (by simp) _


theorem own_touch {F : Nat → Prop} {w w' : World} {B s n : Nat} {e : TypeId} {v : Value} {xs : List Value} (h : w.ownsRow B e s v n xs) (ht : Touch F w w') (hF : ∀ k, F k → k < B) : w'.ownsRow B e s v n xs :=
 own_kept h fun g hg hl => ht.block g hl fun hf => by have := (own_lt h hg).2; have := hF g hf; omega
theorem Touch.on {F : Nat → Prop} {w w' w'' : World} (h : Touch F w w') (k : Touch F w' w'') : Touch F w w'' := h.trans k fun _ h => .inl h
theorem Box.touch {F : Nat → Prop} {w w' : World} {g : Nat} {vs : List Value} (h : Box w g vs) (ht : Touch F w w') (hg : ¬ F g) : Box w' g vs :=
 ⟨by have := ht.size; have := h.1; omega, fun i v hv => ⟨(ht.cell h.1 hg).trans (h.2 i v hv).1, (ht.frozen h.1 hg).trans (h.2 i v hv).2⟩⟩
theorem rd_of_ownS {w : World} {B n c s : Nat} {e : TypeId} {A : Option Addr} {xs : List Value} (h : w.ownsRow B e s (.slice A n c) n xs) : n ≤ c ∧ c ≤ maxLen ∧ Rd w A xs := by
 obtain ⟨_, _, e, h1, h2, h3, _, _⟩ := ownS_slice h
 cases e
 exact ⟨h1, h2, h3⟩

structure MsgNew (B : Nat) (w : World) (m : MsgD) (a : MsgA) : Prop where
 oL : w.ownsRow B 40 4 (.slice a.AL a.nL a.cL) a.nL (txs m.L)
 ohB : w.ownsRow B 3 1 (.slice a.AhB a.nhB a.chB) a.nhB (i64s m.hB)
 ohP : w.ownsRow B 3 1 (.slice a.AhP a.nhP a.chP) a.nhP (i64s m.hP)
 ocB : w.ownsRow B 3 1 (.slice a.AcB a.ncB a.ccB) a.ncB (i64s m.cB)
 ocP : w.ownsRow B 3 1 (.slice a.AcP a.ncP a.ccP) a.ncP (i64s m.cP)
 ocS : w.ownsRow B 3 1 (.slice a.AcS a.ncS a.ccS) a.ncS (i64s m.cS)
 oD : w.ownsRow B 3 1 (.slice a.AD a.nD a.cD) a.nD (i64s m.D)
 aL : ∀ k, (Value.slice a.AD a.nD a.cD).ownBlock = some k → (Value.slice a.AL a.nL a.cL).ownBlock ≠ some k
 ahB : ∀ k, (Value.slice a.AD a.nD a.cD).ownBlock = some k → (Value.slice a.AhB a.nhB a.chB).ownBlock ≠ some k
 ahP : ∀ k, (Value.slice a.AD a.nD a.cD).ownBlock = some k → (Value.slice a.AhP a.nhP a.chP).ownBlock ≠ some k
 acB : ∀ k, (Value.slice a.AD a.nD a.cD).ownBlock = some k → (Value.slice a.AcB a.ncB a.ccB).ownBlock ≠ some k
 acP : ∀ k, (Value.slice a.AD a.nD a.cD).ownBlock = some k → (Value.slice a.AcP a.ncP a.ccP).ownBlock ≠ some k
 acS : ∀ k, (Value.slice a.AD a.nD a.cD).ownBlock = some k → (Value.slice a.AcS a.ncS a.ccS).ownBlock ≠ some k
theorem MsgNew.below {B : Nat} {w w' : World} {m : MsgD} {a : MsgA} (h : MsgNew B w m a) (hb : Below w.heap.size w w') : MsgNew B w' m a :=
 ⟨ownS_below h.oL hb, own_below h.ohB hb, own_below h.ohP hb, own_below h.ocB hb, own_below h.ocP hb, own_below h.ocS hb, own_below h.oD hb, h.aL, h.ahB, h.ahP, h.acB, h.acP, h.acS⟩
theorem MsgNew.more {B B' : Nat} {w : World} {m : MsgD} {a : MsgA} (h : MsgNew B w m a) (hB : B' ≤ B) : MsgNew B' w m a :=
 ⟨ownS_more h.oL hB, ownS_more h.ohB hB, ownS_more h.ohP hB, ownS_more h.ocB hB, ownS_more h.ocP hB, ownS_more h.ocS hB, ownS_more h.oD hB, h.aL, h.ahB, h.ahP, h.acB, h.acP, h.acS⟩
def MsgA.has (a : MsgA) (k : Nat) : Prop := (Value.slice a.AL a.nL a.cL).ownBlock = some k ∨ (Value.slice a.AhB a.nhB a.chB).ownBlock = some k ∨ (Value.slice a.AhP a.nhP a.chP).ownBlock = some k ∨ (Value.slice a.AcB a.ncB a.ccB).ownBlock = some k ∨ (Value.slice a.AcP a.ncP a.ccP).ownBlock = some k ∨ (Value.slice a.AcS a.ncS a.ccS).ownBlock = some k ∨ (Value.slice a.AD a.nD a.cD).ownBlock = some k
theorem MsgNew.lt {B : Nat} {w : World} {m : MsgD} {a : MsgA} (h : MsgNew B w m a) {k : Nat} (hk : a.has k) : k < w.heap.size ∧ B ≤ k := by
 rcases hk with hk | hk | hk | hk | hk | hk | hk
 ·exact own_lt h.oL hk
 ·exact own_lt h.ohB hk
 ·exact own_lt h.ohP hk
 ·exact own_lt h.ocB hk
 ·exact own_lt h.ocP hk
 ·exact own_lt h.ocS hk
 ·exact own_lt h.oD hk
theorem MsgNew.kept {B : Nat} {w w' : World} {m : MsgD} {a : MsgA} (h : MsgNew B w m a) (hk : ∀ g, a.has g → g < w.heap.size → w'.heap[g]? = w.heap[g]?) : MsgNew B w' m a :=
 ⟨own_kept h.oL fun g hg => hk g (.inl hg), own_kept h.ohB fun g hg => hk g (.inr (.inl hg)), own_kept h.ohP fun g hg => hk g (.inr (.inr (.inl hg))), own_kept h.ocB fun g hg => hk g (.inr (.inr (.inr (.inl hg)))), own_kept h.ocP fun g hg => hk g (.inr (.inr (.inr (.inr (.inl hg))))),
  own_kept h.ocS fun g hg => hk g (.inr (.inr (.inr (.inr (.inr (.inl hg)))))), own_kept h.oD fun g hg => hk g (.inr (.inr (.inr (.inr (.inr (.inr hg)))))), h.aL, h.ahB, h.ahP, h.acB, h.acP, h.acS⟩
theorem own_is {w : World} {B n c : Nat} {A : Option Addr} {l : List Int} (h : w.ownsRow B 3 1 (.slice A n c) n (i64s l)) : l.length = n ∧ Rd w A (i64s l) ∧ n ≤ c ∧ c ≤ maxLen := by
 obtain ⟨_, _, e, h1, h2, h3, _, h5⟩ := own_val h
 cases e
 exact ⟨by rw [← h5, i64s_length], h3, h1, h2⟩
theorem own_isT {w : World} {B n c : Nat} {A : Option Addr} {l : List TxD} (h : w.ownsRow B 40 4 (.slice A n c) n (txs l)) : l.length = n ∧ Rd w A (txs l) ∧ n ≤ c ∧ c ≤ maxLen := by
 obtain ⟨_, _, e, h1, h2, h3, _, h5⟩ := ownS_slice h
 cases e
 exact ⟨by rw [txs_length] at h5; omega, h3, h1, h2⟩
theorem MsgNew.in_ {B : Nat} {w : World} {m : MsgD} {a : MsgA} (h : MsgNew B w m a) : MsgIn w m a := by
 obtain ⟨a1, a2, a3, a4⟩ := own_isT h.oL
 obtain ⟨b1, b2, b3, b4⟩ := own_is h.ohB
 obtain ⟨c1, c2, c3, c4⟩ := own_is h.ohP
 obtain ⟨d1, d2, d3, d4⟩ := own_is h.ocB
 obtain ⟨e1, e2, e3, e4⟩ := own_is h.ocP
 obtain ⟨f1, f2, f3, f4⟩ := own_is h.ocS
 obtain ⟨g1, g2, g3, g4⟩ := own_is h.oD
 exact ⟨a1, a2, a3, a4, b1, b2, b3, b4, c1, c2, c3, c4, d1, d2, d3, d4, e1, e2, e3, e4, f1, f2, f3, f4, g1, g2, g3, g4⟩

end Go.Proofs.YteepobghdpnabaaGreat
namespace Go.Proofs.YteepobghdpnabaaGreat
open Go.RowKit

theorem own_typeZ {w : World} {B e s n : Nat} {v : Value} {xs : List Value} (h : w.ownsRow B e s v n xs) {b : Nat} (hb : v.ownBlock = some b) : ∃ cur, w.heap[b]? = some (.cells cur e (0, 0)) := by
 rcases h.2 with ⟨rfl, _⟩ | ⟨g', cap, cur, rfl, hB, hh, _⟩
 ·simp [Value.ownBlock] at hb
 ·have : g' = b := by simpa [Value.ownBlock] using hb
  subst this
  exact ⟨cur, hh⟩
theorem own_unlike {w : World} {B B' e e' s s' n n' : Nat} {v v' : Value} {xs xs' : List Value} (h : w.ownsRow B e s v n xs) (h' : w.ownsRow B' e' s' v' n' xs') (he : e ≠ e') {b : Nat} (hb : v.ownBlock = some b) : v'.ownBlock ≠ some b := fun hb' => by
 obtain ⟨cur, h1⟩ := own_typeZ h hb
 obtain ⟨cur', h2⟩ := own_typeZ h' hb'
 rw [h1] at h2
 cases h2
 exact he rfl

structure Ad where
 A : Option Addr
 n : Nat
 c : Nat
def Ad.v (a : Ad) : Value := .slice a.A a.n a.c
def noAd : Ad := ⟨none, 0, 0⟩
structure SlIn (w : World) (a : Ad) (l : Nat) (xs : List Value) : Prop where
 len : l = a.n
 cap : a.n ≤ a.c
 max : a.c ≤ maxLen
 rd : Rd w a.A xs
section
variable {w w' : World} {a : Ad} {l : Nat} {xs : List Value} {B e s : Nat}
theorem SlIn.below (h : SlIn w a l xs) (hb : Below w.heap.size w w') : SlIn w' a l xs := ⟨h.len, h.cap, h.max, h.rd.below hb⟩
theorem SlIn.touch {F : Nat → Prop} (h : SlIn w a l xs) (ht : Touch F w w') (hF : ∀ x, a.A = some x → ¬ F x.block) : SlIn w' a l xs :=
 ⟨h.len, h.cap, h.max, h.rd.kept ht.size fun x hx hl => ht.block _ hl (hF x hx)⟩
theorem SlIn.drew (h : SlIn w a l xs) : SlIn w.drew a l xs := ⟨h.len, h.cap, h.max, h.rd⟩
theorem slIn_none (w : World) : SlIn w noAd 0 [] := ⟨rfl, Nat.le_refl _, by simp [noAd, maxLen], Rd.nil _ _⟩
theorem slIn_own {B : Nat} (h : w.ownsRow B e s a.v a.n xs) (hl : l = a.n) : SlIn w a l xs := by
 obtain ⟨h1, h2, h3⟩ := rd_of_ownS (A := a.A) (c := a.c) h
 exact ⟨hl, h1, h2, h3⟩
end

structure Kd (α : Type) where
 e : TypeId
 s : Nat
 e2 : TypeId
 s2 : Nat
 cells : α → Value → List Value
 bd : α → List Value
 len : α → Nat
 hs : ∀ x v, (cells x v).length = s
 pos : 0 < s
 ne : e ≠ e2
 at2 : Nat
 lt2 : at2 < s
 hset : ∀ x u v, (cells x u).set at2 v = cells x v
 one : ∀ x v, v.oneCell' = true → ∀ u ∈ cells x v, u.oneCell' = true
section
variable {α : Type} (K : Kd α)
def cellsK (ms : List (α × Ad)) : List Value := ms.flatMap fun x => K.cells x.1 x.2.v
theorem cellsK_length (ms : List (α × Ad)) : (cellsK K ms).length = ms.length * K.s := by
 induction ms with
 | nil => simp [cellsK]
 | cons x l ih =>
  have e : cellsK K (x :: l) = K.cells x.1 x.2.v ++ cellsK K l := rfl
  rw [e, List.length_append, ih, K.hs, List.length_cons, Nat.succ_mul]
  omega
theorem cellsK_append (a b : List (α × Ad)) : cellsK K (a ++ b) = cellsK K a ++ cellsK K b := by simp [cellsK]
theorem cellsK_one (x : α) (a : Ad) : cellsK K [(x, a)] = K.cells x a.v := by simp [cellsK]
theorem cellsK_at : ∀ {ms : List (α × Ad)} {i : Nat} {x : α × Ad}, ms[i]? = some x → ∀ {j : Nat} {v : Value}, (K.cells x.1 x.2.v)[j]? = some v → (cellsK K ms)[i * K.s + j]? = some v
 | [], _, _, h, _, _, _ => by simp at h
 | y :: l, 0, x, h, j, v, hv => by
  simp at h
  subst h
  show (K.cells y.1 y.2.v ++ cellsK K l)[0 * K.s + j]? = some v
  rw [Nat.zero_mul, Nat.zero_add, List.getElem?_append_left (List.getElem?_eq_some_iff.1 hv).1]
  exact hv
 | y :: l, i + 1, x, h, j, v, hv => by
  have ih := cellsK_at (ms := l) (i := i) (by simpa using h) hv
  show (K.cells y.1 y.2.v ++ cellsK K l)[(i + 1) * K.s + j]? = some v
  rw [List.getElem?_append_right (by rw [K.hs, Nat.succ_mul]; omega), K.hs, show (i + 1) * K.s + j - K.s = i * K.s + j by rw [Nat.succ_mul]; omega]
  exact ih
theorem cellsK_take (ms : List (α × Ad)) (k : Nat) : (cellsK K ms).take (k * K.s) = cellsK K (ms.take k) := by
 rcases Nat.lt_or_ge k ms.length with h | h
 ·conv => lhs; rw [← List.take_append_drop k ms, cellsK_append]
  rw [List.take_append_of_le_length (by rw [cellsK_length, List.length_take, Nat.min_eq_left (by omega)]; exact Nat.le_refl _), List.take_of_length_le (by rw [cellsK_length, List.length_take, Nat.min_eq_left (by omega)]; exact Nat.le_refl _)]
 ·rw [List.take_of_length_le h, List.take_of_length_le (by rw [cellsK_length]; exact Nat.mul_le_mul_right _ h)]
theorem cellsK_drop (ms : List (α × Ad)) (k : Nat) : (cellsK K ms).drop (k * K.s) = cellsK K (ms.drop k) := by
 rcases Nat.lt_or_ge k ms.length with h | h
 ·conv => lhs; rw [← List.take_append_drop k ms, cellsK_append]
  rw [List.drop_append_of_le_length (by rw [cellsK_length, List.length_take, Nat.min_eq_left (by omega)]; exact Nat.le_refl _), List.drop_of_length_le (by rw [cellsK_length, List.length_take, Nat.min_eq_left (by omega)]; exact Nat.le_refl _), List.nil_append]
 ·rw [List.drop_of_length_le h, List.drop_of_length_le (by rw [cellsK_length]; exact Nat.mul_le_mul_right _ h)]
  rfl

theorem cellsK_set : ∀ {ms : List (α × Ad)} {i : Nat} {x : α × Ad} (o : Ad), ms[i]? = some x → (cellsK K ms).set (i * K.s + K.at2) o.v = cellsK K (ms.set i (x.1, o))
 | [], _, _, _, h => by simp at h
 | y :: l, 0, x, o, h => by
  simp at h
  subst h
  show (K.cells y.1 y.2.v ++ cellsK K l).set (0 * K.s + K.at2) o.v = K.cells y.1 o.v ++ cellsK K l
  rw [Nat.zero_mul, Nat.zero_add, List.set_append_left _ _ (by rw [K.hs]; exact K.lt2), K.hset]
 | y :: l, i + 1, x, o, h => by
  have ih := cellsK_set (ms := l) (i := i) o (by simpa using h)
  show (K.cells y.1 y.2.v ++ cellsK K l).set ((i + 1) * K.s + K.at2) o.v = K.cells y.1 y.2.v ++ cellsK K (l.set i (x.1, o))
  rw [List.set_append_right _ _ (by rw [K.hs, Nat.succ_mul]; omega), K.hs, show (i + 1) * K.s + K.at2 - K.s = i * K.s + K.at2 by rw [Nat.succ_mul]; omega, ih]
theorem cellsK_oneCell (ms : List (α × Ad)) : ∀ u ∈ cellsK K ms, u.oneCell' = true := fun u hu => by
 obtain ⟨x, _, hx⟩ := List.mem_flatMap.1 hu
 exact K.one x.1 x.2.v rfl u hx

structure RowIn (w : World) (a : Ad) (ms : List (α × Ad)) : Prop where
 row : SlIn w a ms.length (cellsK K ms)
 sub : ∀ x ∈ ms, SlIn w x.2 (K.len x.1) (K.bd x.1)
structure RowOwn (B : Nat) (w : World) (a : Ad) (ms : List (α × Ad)) : Prop where
 row : w.ownsRow B K.e K.s a.v a.n (cellsK K ms)
 len : ms.length = a.n
 sub : ∀ x ∈ ms, w.ownsRow B K.e2 K.s2 x.2.v x.2.n (K.bd x.1) ∧ K.len x.1 = x.2.n
 nod : ms.Pairwise fun x y => ∀ k, x.2.v.ownBlock = some k → y.2.v.ownBlock ≠ some k
variable {K} {w w' : World} {a a' : Ad} {ms ms' : List (α × Ad)} {B B' : Nat}
theorem RowIn.below (h : RowIn K w a ms) (hb : Below w.heap.size w w') : RowIn K w' a ms := ⟨h.row.below hb, fun x hx => (h.sub x hx).below hb⟩
theorem RowIn.touch {F : Nat → Prop} (h : RowIn K w a ms) (ht : Touch F w w') (h1 : ∀ x, a.A = some x → ¬ F x.block) (h2 : ∀ y ∈ ms, ∀ x, y.2.A = some x → ¬ F x.block) : RowIn K w' a ms :=
 ⟨h.row.touch ht h1, fun y hy => (h.sub y hy).touch ht (h2 y hy)⟩
theorem RowOwn.in_ (h : RowOwn K B w a ms) : RowIn K w a ms := ⟨slIn_own h.row h.len, fun x hx => slIn_own (h.sub x hx).1 (h.sub x hx).2⟩
theorem rowOwn_none (w : World) (B : Nat) : RowOwn K B w noAd [] := ⟨World.ownsRow_nil _ _ _ _, rfl, fun x hx => by simp at hx, List.Pairwise.nil⟩
theorem RowOwn.below (h : RowOwn K B w a ms) (hb : Below w.heap.size w w') : RowOwn K B w' a ms := ⟨ownS_below h.row hb, h.len, fun x hx => ⟨ownS_below (h.sub x hx).1 hb, (h.sub x hx).2⟩, h.nod⟩
theorem RowOwn.more (h : RowOwn K B w a ms) (hB : B' ≤ B) : RowOwn K B' w a ms := ⟨ownS_more h.row hB, h.len, fun x hx => ⟨ownS_more (h.sub x hx).1 hB, (h.sub x hx).2⟩, h.nod⟩
theorem RowOwn.apart (h : RowOwn K B w a ms) {x : α × Ad} (hx : x ∈ ms) {k : Nat} (hk : a.v.ownBlock = some k) : x.2.v.ownBlock ≠ some k := own_unlike h.row (h.sub x hx).1 K.ne hk
theorem RowOwn.touch {F : Nat → Prop} (h : RowOwn K B w a ms) (ht : Touch F w w') (h1 : ∀ k, a.v.ownBlock = some k → ¬ F k) (h2 : ∀ y ∈ ms, ∀ k, y.2.v.ownBlock = some k → ¬ F k) : RowOwn K B w' a ms :=
 ⟨own_kept h.row fun g hg hl => ht.block g hl (h1 g hg), h.len, fun x hx => ⟨own_kept (h.sub x hx).1 fun g hg hl => ht.block g hl (h2 x hx g hg), (h.sub x hx).2⟩, h.nod⟩
end

def KW : Kd WtD where
 e := 56
 s := 2
 e2 := 3
 s2 := 1
 cells := fun x v => [.int .i64 x.d, v]
 bd := fun x => i64s x.S
 len := fun x => x.S.length
 hs := fun _ _ => rfl
 pos := by decide
 ne := by decide
 at2 := 1
 lt2 := by decide
 hset := fun _ _ _ => rfl
 one := fun x v hv u hu => by
  simp only [List.mem_cons, List.not_mem_nil, or_false] at hu
  rcases hu with rfl | rfl
  ·rfl
  ·exact hv
def KH : Kd HlD where
 e := 70
 s := 4
 e2 := 40
 s2 := 4
 cells := fun x v => [.int .i64 x.d, .int .i64 x.a, .int .i64 x.n, v]
 bd := fun x => txs x.L
 len := fun x => x.L.length
 hs := fun _ _ => rfl
 pos := by decide
 ne := by decide
 at2 := 3
 lt2 := by decide
 hset := fun _ _ _ => rfl
 one := fun x v hv u hu => by
  simp only [List.mem_cons, List.not_mem_nil, or_false] at hu
  rcases hu with rfl | rfl | rfl | rfl
  ·rfl
  ·rfl
  ·rfl
  ·exact hv
def KM : Kd OtD where
 e := 48
 s := 18
 e2 := 40
 s2 := 4
 cells := fun m v => [.int .i64 m.k, .int .i64 m.f, .int .i64 m.t, .int .i64 m.d, .int .i64 m.a, .int .i64 m.n, v, .int .i64 0, .int .i64 0, .slice none 0 0, .slice none 0 0, .int .i64 0, .int .i64 0, .slice none 0 0, .slice none 0 0, .int .i64 0, .slice none 0 0, .slice none 0 0]
 bd := fun m => txs m.L
 len := fun m => m.L.length
 hs := fun _ _ => rfl
 pos := by decide
 ne := by decide
 at2 := 6
 lt2 := by decide
 hset := fun _ _ _ => rfl
 one := fun x v hv u hu => by
  simp only [List.mem_cons, List.not_mem_nil, or_false] at hu
  rcases hu with rfl | rfl | rfl | rfl | rfl | rfl | rfl | rfl | rfl | rfl | rfl | rfl | rfl | rfl | rfl | rfl | rfl | rfl
  all_goals first | rfl | exact hv

structure WkA where
 O : Ad
 W : Ad
 H : Ad
 R : Ad
 ms : List (WtD × Ad)
 hs : List (HlD × Ad)
def zeroWA : WkA := ⟨noAd, noAd, noAd, noAd, [], []⟩
def wkC (P : WkD) (a : WkA) : List Value := [.int .i64 P.i, .int .i64 P.N, .int .i64 P.x, a.O.v, .int .i64 P.g, .int .i64 P.c, a.W.v, a.H.v, a.R.v]
def wkV (P : WkD) (a : WkA) : Value := .agg #[.int .i64 P.i, .int .i64 P.N, .int .i64 P.x, a.O.v, .int .i64 P.g, .int .i64 P.c, a.W.v, a.H.v, a.R.v]
structure WIn (w : World) (P : WkD) (a : WkA) : Prop where
 open_ : SlIn w a.O P.O.length (txs P.O)
 waits : RowIn KW w a.W a.ms
 eW : a.ms.map Prod.fst = P.W
 held : RowIn KH w a.H a.hs
 eH : a.hs.map Prod.fst = P.H
 ready : SlIn w a.R P.R.length (i64s P.R)
def Ad.at_ (a : Ad) (k : Nat) : Prop := ∃ x, a.A = some x ∧ x.block = k
def WkA.has (a : WkA) (k : Nat) : Prop := a.O.at_ k ∨ a.W.at_ k ∨ a.H.at_ k ∨ a.R.at_ k ∨ (∃ x ∈ a.ms, x.2.at_ k) ∨ ∃ x ∈ a.hs, x.2.at_ k
structure WCore (B : Nat) (w : World) (P : WkD) (a : WkA) : Prop where
 waits : RowOwn KW B w a.W a.ms
 eW : a.ms.map Prod.fst = P.W
 held : RowOwn KH B w a.H a.hs
 eH : a.hs.map Prod.fst = P.H
 ready : w.ownsRow B 3 1 a.R.v a.R.n (i64s P.R)
 rL : P.R.length = a.R.n
 apR : ∀ x ∈ a.ms, ∀ k, a.R.v.ownBlock = some k → x.2.v.ownBlock ≠ some k
structure WNew (B : Nat) (w : World) (P : WkD) (a : WkA) : Prop where
 core : WCore B w P a
 open_ : w.ownsRow B 40 4 a.O.v a.O.n (txs P.O)
 oL : P.O.length = a.O.n
 apO : ∀ x ∈ a.hs, ∀ k, a.O.v.ownBlock = some k → x.2.v.ownBlock ≠ some k
structure WPg (B : Nat) (w : World) (P : WkD) (a : WkA) : Prop where
 core : WCore B w P a
 open_ : SlIn w a.O P.O.length (txs P.O)
 typ : ∀ x, a.O.A = some x → ∃ cur, w.heap[x.block]? = some (.cells cur 40 (0, 0))
section
variable {w w' : World} {P : WkD} {a : WkA} {B B' : Nat} {F : Nat → Prop}
theorem WIn.below (h : WIn w P a) (hb : Below w.heap.size w w') : WIn w' P a := ⟨h.open_.below hb, h.waits.below hb, h.eW, h.held.below hb, h.eH, h.ready.below hb⟩
theorem WIn.touch (h : WIn w P a) (ht : Touch F w w') (hF : ∀ k, F k → ¬ a.has k) : WIn w' P a :=
 ⟨h.open_.touch ht fun x hx hf => hF _ hf (.inl ⟨x, hx, rfl⟩), h.waits.touch ht (fun x hx hf => hF _ hf (.inr (.inl ⟨x, hx, rfl⟩))) (fun y hy x hx hf => hF _ hf (.inr (.inr (.inr (.inr (.inl ⟨y, hy, x, hx, rfl⟩)))))), h.eW,
  h.held.touch ht (fun x hx hf => hF _ hf (.inr (.inr (.inl ⟨x, hx, rfl⟩)))) (fun y hy x hx hf => hF _ hf (.inr (.inr (.inr (.inr (.inr ⟨y, hy, x, hx, rfl⟩)))))), h.eH, h.ready.touch ht fun x hx hf => hF _ hf (.inr (.inr (.inr (.inl ⟨x, hx, rfl⟩))))⟩
theorem wCore_none (B : Nat) (w : World) (P : WkD) (h1 : P.W = []) (h2 : P.H = []) (h3 : P.R = []) : WCore B w P zeroWA := ⟨rowOwn_none w B, h1.symm, rowOwn_none w B, h2.symm, by rw [h3]; exact World.ownsRow_nil _ _ _ _, by rw [h3]; rfl, fun x hx => by simp [zeroWA] at hx⟩
theorem wNew_none (B : Nat) (w : World) (P : WkD) (h0 : P.O = []) (h1 : P.W = []) (h2 : P.H = []) (h3 : P.R = []) : WNew B w P zeroWA := ⟨wCore_none B w P h1 h2 h3, by rw [h0]; exact World.ownsRow_nil _ _ _ _, by rw [h0]; rfl, fun x hx => by simp [zeroWA] at hx⟩
theorem wNew_zero (B : Nat) (w : World) : WNew B w zeroW zeroWA := wNew_none B w _ rfl rfl rfl rfl
theorem wNew_new (B : Nat) (w : World) (i N : Int) : WNew B w (newW i N) zeroWA := wNew_none B w _ rfl rfl rfl rfl
theorem WPg.in_ (h : WPg B w P a) : WIn w P a := ⟨h.open_, h.core.waits.in_, h.core.eW, h.core.held.in_, h.core.eH, slIn_own h.core.ready h.core.rL⟩
theorem own_block_typ {e s n : Nat} {o : Ad} {xs : List Value} (h : w.ownsRow B e s o.v n xs) {x : Addr} (hx : o.A = some x) : ∃ cur, w.heap[x.block]? = some (.cells cur e (0, 0)) := by
 rcases h.2 with ⟨hv, _⟩ | ⟨g', cap, cur, hv, hB, hh, _⟩
 ·rw [Ad.v, hx] at hv; cases hv
 ·rw [Ad.v, hx] at hv; cases hv; exact ⟨cur, hh⟩
theorem WNew.pg (h : WNew B w P a) : WPg B w P a := ⟨h.core, slIn_own h.open_ h.oL, fun _ hx => own_block_typ h.open_ hx⟩
theorem WNew.in_ (h : WNew B w P a) : WIn w P a := h.pg.in_
theorem WCore.below (h : WCore B w P a) (hb : Below w.heap.size w w') : WCore B w' P a := ⟨h.waits.below hb, h.eW, h.held.below hb, h.eH, ownS_below h.ready hb, h.rL, h.apR⟩
theorem WCore.more (h : WCore B w P a) (hB : B' ≤ B) : WCore B' w P a := ⟨h.waits.more hB, h.eW, h.held.more hB, h.eH, ownS_more h.ready hB, h.rL, h.apR⟩
theorem WNew.below (h : WNew B w P a) (hb : Below w.heap.size w w') : WNew B w' P a := ⟨h.core.below hb, ownS_below h.open_ hb, h.oL, h.apO⟩
theorem WNew.more (h : WNew B w P a) (hB : B' ≤ B) : WNew B' w P a := ⟨h.core.more hB, ownS_more h.open_ hB, h.oL, h.apO⟩
theorem WPg.below (h : WPg B w P a) (hb : Below w.heap.size w w') : WPg B w' P a := ⟨h.core.below hb, h.open_.below hb, fun x hx => by
 obtain ⟨cur, hc⟩ := h.typ x hx
 exact ⟨cur, (hb.block _ (lt_of_block hc)).trans hc⟩⟩
theorem WPg.more (h : WPg B w P a) (hB : B' ≤ B) : WPg B' w P a := ⟨h.core.more hB, h.open_, h.typ⟩
def WkA.owns (a : WkA) (k : Nat) : Prop := a.W.v.ownBlock = some k ∨ a.H.v.ownBlock = some k ∨ a.R.v.ownBlock = some k ∨ (∃ x ∈ a.ms, x.2.v.ownBlock = some k) ∨ ∃ x ∈ a.hs, x.2.v.ownBlock = some k
theorem WCore.touch (h : WCore B w P a) (ht : Touch F w w') (hF : ∀ k, F k → ¬ a.owns k) : WCore B w' P a :=
 ⟨h.waits.touch ht (fun k hk hf => hF k hf (.inl hk)) (fun y hy k hk hf => hF k hf (.inr (.inr (.inr (.inl ⟨y, hy, hk⟩))))), h.eW,
  h.held.touch ht (fun k hk hf => hF k hf (.inr (.inl hk))) (fun y hy k hk hf => hF k hf (.inr (.inr (.inr (.inr ⟨y, hy, hk⟩))))), h.eH, own_kept h.ready fun g hg hl => ht.block g hl fun hf => hF g hf (.inr (.inr (.inl hg))), h.rL, h.apR⟩
theorem WNew.touch (h : WNew B w P a) (ht : Touch F w w') (hF : ∀ k, F k → ¬ a.owns k) (hO : ∀ k, F k → a.O.v.ownBlock ≠ some k) : WNew B w' P a :=
 ⟨h.core.touch ht hF, own_kept h.open_ fun g hg hl => ht.block g hl fun hf => hO g hf hg, h.oL, h.apO⟩
theorem WPg.touch (h : WPg B w P a) (ht : Touch F w w') (hF : ∀ k, F k → ¬ a.owns k) (hO : ∀ k, F k → ¬ a.O.at_ k) : WPg B w' P a :=
 ⟨h.core.touch ht hF, h.open_.touch ht fun x hx hf => hO _ hf ⟨x, hx, rfl⟩, fun x hx => by
  obtain ⟨cur, hc⟩ := h.typ x hx
  exact ⟨cur, (ht.block _ (lt_of_block hc) fun hf => hO _ hf ⟨x, hx, rfl⟩).trans hc⟩⟩
theorem WCore.lt (h : WCore B w P a) {k : Nat} (hk : a.owns k) : k < w.heap.size ∧ B ≤ k := by
 rcases hk with hk | hk | hk | ⟨x, hx, hk⟩ | ⟨x, hx, hk⟩
 ·exact own_lt h.waits.row hk
 ·exact own_lt h.held.row hk
 ·exact own_lt h.ready hk
 ·exact own_lt (h.waits.sub x hx).1 hk
 ·exact own_lt (h.held.sub x hx).1 hk
theorem WCore.sort (h : WCore B w P a) {k : Nat} (hk : a.owns k) : ∃ cur e, w.heap[k]? = some (.cells cur e (0, 0)) ∧ (e = 56 ∨ e = 70 ∨ e = 3 ∨ e = 40) := by
 rcases hk with hk | hk | hk | ⟨x, hx, hk⟩ | ⟨x, hx, hk⟩
 ·obtain ⟨cur, hc⟩ := own_typeZ h.waits.row hk
  exact ⟨cur, _, hc, .inl rfl⟩
 ·obtain ⟨cur, hc⟩ := own_typeZ h.held.row hk
  exact ⟨cur, _, hc, .inr (.inl rfl)⟩
 ·obtain ⟨cur, hc⟩ := own_typeZ h.ready hk
  exact ⟨cur, _, hc, .inr (.inr (.inl rfl))⟩
 ·obtain ⟨cur, hc⟩ := own_typeZ (h.waits.sub x hx).1 hk
  exact ⟨cur, _, hc, .inr (.inr (.inl rfl))⟩
 ·obtain ⟨cur, hc⟩ := own_typeZ (h.held.sub x hx).1 hk
  exact ⟨cur, _, hc, .inr (.inr (.inr rfl))⟩
theorem WCore.setR (h : WCore B w P a) {L : List Int} {o : Ad} (ht : Touch (fun k => a.R.v.ownBlock = some k) w w') (ho : w'.ownsRow B 3 1 o.v o.n (i64s L)) (hl : L.length = o.n) (hb : ∀ k, o.v.ownBlock = some k → a.R.v.ownBlock = some k ∨ w.heap.size ≤ k) :
  WCore B w' { P with R := L } { a with R := o } :=
 ⟨h.waits.touch ht (fun k hk hf => own_unlike h.ready h.waits.row (show 3 ≠ KW.e by decide) hf hk) (fun y hy k hk hf => h.apR y hy k hf hk), h.eW,
  h.held.touch ht (fun k hk hf => own_unlike h.ready h.held.row (show 3 ≠ KH.e by decide) hf hk) (fun y hy k hk hf => own_unlike h.ready (h.held.sub y hy).1 (show 3 ≠ KH.e2 by decide) hf hk), h.eH,
  ho, hl, fun x hx k hk hk2 => by
   rcases hb k hk with e | e
   ·exact h.apR x hx k e hk2
   ·have := (own_lt (h.waits.sub x hx).1 hk2).1
    omega⟩
theorem WCore.setH (h : WCore B w P a) {ho : Ad} {hs : List (HlD × Ad)} {L : List HlD} (ht : Touch (fun k => a.H.v.ownBlock = some k) w w') (hr : RowOwn KH B w' ho hs) (he : hs.map Prod.fst = L) :
  WCore B w' { P with H := L } { a with H := ho, hs := hs } :=
 ⟨h.waits.touch ht (fun k hk hf => own_unlike h.held.row h.waits.row (show KH.e ≠ KW.e by decide) hf hk) (fun y hy k hk hf => own_unlike h.held.row (h.waits.sub y hy).1 (show KH.e ≠ KW.e2 by decide) hf hk), h.eW,
  hr, he, own_kept h.ready fun g hg hlt => ht.block g hlt fun hf => own_unlike h.held.row h.ready (show KH.e ≠ 3 by decide) hf hg, h.rL, h.apR⟩
theorem WCore.setW (h : WCore B w P a) {ho : Ad} {ms : List (WtD × Ad)} {L : List WtD} (ht : Touch (fun k => a.W.v.ownBlock = some k) w w') (hr : RowOwn KW B w' ho ms) (he : ms.map Prod.fst = L) (hb : ∀ x ∈ ms, ∀ k, a.R.v.ownBlock = some k → x.2.v.ownBlock ≠ some k) :
  WCore B w' { P with W := L } { a with W := ho, ms := ms } :=
 ⟨hr, he, h.held.touch ht (fun k hk hf => own_unlike h.waits.row h.held.row (show KW.e ≠ KH.e by decide) hf hk) (fun y hy k hk hf => own_unlike h.waits.row (h.held.sub y hy).1 (show KW.e ≠ KH.e2 by decide) hf hk), h.eH,
  own_kept h.ready fun g hg hlt => ht.block g hlt fun hf => own_unlike h.waits.row h.ready (show KW.e ≠ 3 by decide) hf hg, h.rL, hb⟩
theorem WNew.setO (h : WNew B w P a) {L : List TxD} {o : Ad} (ht : Touch (fun k => a.O.v.ownBlock = some k) w w') (ho : w'.ownsRow B 40 4 o.v o.n (txs L)) (hl : L.length = o.n) (hb : ∀ k, o.v.ownBlock = some k → a.O.v.ownBlock = some k ∨ w.heap.size ≤ k) :
  WNew B w' { P with O := L } { a with O := o } :=
 have c := h.core
 ⟨⟨c.waits.touch ht (fun k hk hf => own_unlike h.open_ c.waits.row (show 40 ≠ KW.e by decide) hf hk) (fun y hy k hk hf => own_unlike h.open_ (c.waits.sub y hy).1 (show 40 ≠ KW.e2 by decide) hf hk), c.eW,
  c.held.touch ht (fun k hk hf => own_unlike h.open_ c.held.row (show 40 ≠ KH.e by decide) hf hk) (fun y hy k hk hf => h.apO y hy k hf hk), c.eH,
  own_kept c.ready fun g hg hlt => ht.block g hlt fun hf => own_unlike h.open_ c.ready (show 40 ≠ 3 by decide) hf hg, c.rL, c.apR⟩, ho, hl,
  fun x hx k hk hk2 => by
   rcases hb k hk with e | e
   ·exact h.apO x hx k e hk2
   ·have := (own_lt (c.held.sub x hx).1 hk2).1
    omega⟩
theorem WNew.setR (h : WNew B w P a) {L : List Int} {o : Ad} (ht : Touch (fun k => a.R.v.ownBlock = some k) w w') (ho : w'.ownsRow B 3 1 o.v o.n (i64s L)) (hl : L.length = o.n) (hb : ∀ k, o.v.ownBlock = some k → a.R.v.ownBlock = some k ∨ w.heap.size ≤ k) :
  WNew B w' { P with R := L } { a with R := o } :=
 ⟨h.core.setR ht ho hl hb, own_kept h.open_ fun g hg hlt => ht.block g hlt fun hf => own_unlike h.core.ready h.open_ (show 3 ≠ 40 by decide) hf hg, h.oL, h.apO⟩
theorem WNew.setH (h : WNew B w P a) {ho : Ad} {hs : List (HlD × Ad)} {L : List HlD} (ht : Touch (fun k => a.H.v.ownBlock = some k) w w') (hr : RowOwn KH B w' ho hs) (he : hs.map Prod.fst = L) (hb : ∀ x ∈ hs, ∀ k, a.O.v.ownBlock = some k → x.2.v.ownBlock ≠ some k) :
  WNew B w' { P with H := L } { a with H := ho, hs := hs } :=
 ⟨h.core.setH ht hr he, own_kept h.open_ fun g hg hlt => ht.block g hlt fun hf => own_unlike h.core.held.row h.open_ (show KH.e ≠ 40 by decide) hf hg, h.oL, hb⟩
theorem WNew.setW (h : WNew B w P a) {ho : Ad} {ms : List (WtD × Ad)} {L : List WtD} (ht : Touch (fun k => a.W.v.ownBlock = some k) w w') (hr : RowOwn KW B w' ho ms) (he : ms.map Prod.fst = L) (hb : ∀ x ∈ ms, ∀ k, a.R.v.ownBlock = some k → x.2.v.ownBlock ≠ some k) :
  WNew B w' { P with W := L } { a with W := ho, ms := ms } :=
 ⟨h.core.setW ht hr he hb, own_kept h.open_ fun g hg hlt => ht.block g hlt fun hf => own_unlike h.core.waits.row h.open_ (show KW.e ≠ 40 by decide) hf hg, h.oL, h.apO⟩
theorem WPg.open_far (h : WPg B w P a) {e s n : Nat} {v : Value} {xs : List Value} (hv : w.ownsRow B e s v n xs) (he : e ≠ 40) {k : Nat} (hk : v.ownBlock = some k) : ¬ a.O.at_ k := fun ⟨x, hx, hxk⟩ => by
 obtain ⟨cur, hc⟩ := h.typ x hx
 obtain ⟨cur', hc'⟩ := own_typeZ hv hk
 rw [hxk, hc'] at hc
 cases hc
 exact he rfl
theorem WPg.keep (h : WPg B w P a) {e s n : Nat} {v : Value} {xs : List Value} (hv : w.ownsRow B e s v n xs) (he : e ≠ 40) (ht : Touch (fun k => v.ownBlock = some k) w w') : SlIn w' a.O P.O.length (txs P.O) ∧ ∀ x, a.O.A = some x → ∃ cur, w'.heap[x.block]? = some (.cells cur 40 (0, 0)) :=
 ⟨h.open_.touch ht fun x hx hf => h.open_far hv he hf ⟨x, hx, rfl⟩, fun x hx => by
  obtain ⟨cur, hc⟩ := h.typ x hx
  exact ⟨cur, (ht.block _ (lt_of_block hc) fun hf => h.open_far hv he hf ⟨x, hx, rfl⟩).trans hc⟩⟩
theorem WPg.setR (h : WPg B w P a) {L : List Int} {o : Ad} (ht : Touch (fun k => a.R.v.ownBlock = some k) w w') (ho : w'.ownsRow B 3 1 o.v o.n (i64s L)) (hl : L.length = o.n) (hb : ∀ k, o.v.ownBlock = some k → a.R.v.ownBlock = some k ∨ w.heap.size ≤ k) :
  WPg B w' { P with R := L } { a with R := o } :=
 have k := h.keep h.core.ready (by decide) ht
 ⟨h.core.setR ht ho hl hb, k.1, k.2⟩
theorem WPg.setH (h : WPg B w P a) {ho : Ad} {hs : List (HlD × Ad)} {L : List HlD} (ht : Touch (fun k => a.H.v.ownBlock = some k) w w') (hr : RowOwn KH B w' ho hs) (he : hs.map Prod.fst = L) :
  WPg B w' { P with H := L } { a with H := ho, hs := hs } :=
 have k := h.keep h.core.held.row (show KH.e ≠ 40 by decide) ht
 ⟨h.core.setH ht hr he, k.1, k.2⟩
theorem WPg.setW (h : WPg B w P a) {ho : Ad} {ms : List (WtD × Ad)} {L : List WtD} (ht : Touch (fun k => a.W.v.ownBlock = some k) w w') (hr : RowOwn KW B w' ho ms) (he : ms.map Prod.fst = L) (hb : ∀ x ∈ ms, ∀ k, a.R.v.ownBlock = some k → x.2.v.ownBlock ≠ some k) :
  WPg B w' { P with W := L } { a with W := ho, ms := ms } :=
 have k := h.keep h.core.waits.row (show KW.e ≠ 40 by decide) ht
 ⟨h.core.setW ht hr he hb, k.1, k.2⟩
end

end Go.Proofs.YteepobghdpnabaaGreat
