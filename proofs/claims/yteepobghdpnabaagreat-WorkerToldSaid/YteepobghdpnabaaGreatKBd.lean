/-
 Messages as plain data, where they lie in memory, and which may be among n nodes.
-/
import Derived.ScopeJumps
import Derived.Deep.MidRow
import Derived.Test.YteepobghdpnabaaGreatKBb
import Derived.Test.YteepobghdpnabaaGreatKBc
import Derived.Test.YteepobghdpnabaaGreatKBa
namespace Go.Proofs.YteepobghdpnabaaGreat
open Go.RowKit

structure MsgD where
 k : Int
 f : Int
 t : Int
 d : Int
 ba : Int
 bn : Int
 L : List TxD
 ha : Int
 hr : Int
 hB : List Int
 hP : List Int
 ca : Int
 cr : Int
 cB : List Int
 cP : List Int
 cd : Int
 cS : List Int
 D : List Int
deriving DecidableEq
structure MsgA where
 AL : Option Addr
 nL : Nat
 cL : Nat
 AhB : Option Addr
 nhB : Nat
 chB : Nat
 AhP : Option Addr
 nhP : Nat
 chP : Nat
 AcB : Option Addr
 ncB : Nat
 ccB : Nat
 AcP : Option Addr
 ncP : Nat
 ccP : Nat
 AcS : Option Addr
 ncS : Nat
 ccS : Nat
 AD : Option Addr
 nD : Nat
 cD : Nat
def msgC (m : MsgD) (a : MsgA) : List Value := [.int .i64 m.k, .int .i64 m.f, .int .i64 m.t, .int .i64 m.d, .int .i64 m.ba, .int .i64 m.bn, .slice a.AL a.nL a.cL, .int .i64 m.ha, .int .i64 m.hr, .slice a.AhB a.nhB a.chB, .slice a.AhP a.nhP a.chP, .int .i64 m.ca, .int .i64 m.cr, .slice a.AcB a.ncB a.ccB, .slice a.AcP a.ncP a.ccP, .int .i64 m.cd, .slice a.AcS a.ncS a.ccS, .slice a.AD a.nD a.cD]
def msgV (m : MsgD) (a : MsgA) : Value := .agg #[.int .i64 m.k, .int .i64 m.f, .int .i64 m.t, .int .i64 m.d, .int .i64 m.ba, .int .i64 m.bn, .slice a.AL a.nL a.cL, .int .i64 m.ha, .int .i64 m.hr, .slice a.AhB a.nhB a.chB, .slice a.AhP a.nhP a.chP, .int .i64 m.ca, .int .i64 m.cr, .slice a.AcB a.ncB a.ccB, .slice a.AcP a.ncP a.ccP, .int .i64 m.cd, .slice a.AcS a.ncS a.ccS, .slice a.AD a.nD a.cD]
def zeroM : MsgD := ⟨0, 0, 0, 0, 0, 0, [], 0, 0, [], [], 0, 0, [], [], 0, [], []⟩
def zeroA : MsgA := ⟨none, 0, 0, none, 0, 0, none, 0, 0, none, 0, 0, none, 0, 0, none, 0, 0, none, 0, 0⟩
structure MsgIn (w : World) (m : MsgD) (a : MsgA) : Prop where
 zL : m.L.length = a.nL
 rL : Rd w a.AL (txs m.L)
 kL : a.nL ≤ a.cL
 xL : a.cL ≤ maxLen
 zhB : m.hB.length = a.nhB
 rhB : Rd w a.AhB (i64s m.hB)
 khB : a.nhB ≤ a.chB
 xhB : a.chB ≤ maxLen
 zhP : m.hP.length = a.nhP
 rhP : Rd w a.AhP (i64s m.hP)
 khP : a.nhP ≤ a.chP
 xhP : a.chP ≤ maxLen
 zcB : m.cB.length = a.ncB
 rcB : Rd w a.AcB (i64s m.cB)
 kcB : a.ncB ≤ a.ccB
 xcB : a.ccB ≤ maxLen
 zcP : m.cP.length = a.ncP
 rcP : Rd w a.AcP (i64s m.cP)
 kcP : a.ncP ≤ a.ccP
 xcP : a.ccP ≤ maxLen
 zcS : m.cS.length = a.ncS
 rcS : Rd w a.AcS (i64s m.cS)
 kcS : a.ncS ≤ a.ccS
 xcS : a.ccS ≤ maxLen
 zD : m.D.length = a.nD
 rD : Rd w a.AD (i64s m.D)
 kD : a.nD ≤ a.cD
 xD : a.cD ≤ maxLen
theorem MsgIn.below {w w' : World} {m : MsgD} {a : MsgA} (h : MsgIn w m a) (hb : Below w.heap.size w w') : MsgIn w' m a :=
 ⟨h.zL, h.rL.below hb, h.kL, h.xL, h.zhB, h.rhB.below hb, h.khB, h.xhB, h.zhP, h.rhP.below hb, h.khP, h.xhP, h.zcB, h.rcB.below hb, h.kcB, h.xcB, h.zcP, h.rcP.below hb, h.kcP, h.xcP, h.zcS, h.rcS.below hb, h.kcS, h.xcS, h.zD, h.rD.below hb, h.kD, h.xD⟩
theorem MsgIn.all {w : World} {m : MsgD} {a : MsgA} (h : MsgIn w m a) : ∀ wX, Below w.heap.size w wX → MsgIn wX m a := fun _ hb => h.below hb
theorem msgIn_zero (w : World) : MsgIn w zeroM zeroA := ⟨rfl, Rd.nil _ _, Nat.le_refl _, by simp [zeroA, maxLen], rfl, Rd.nil _ _, Nat.le_refl _, by simp [zeroA, maxLen], rfl, Rd.nil _ _, Nat.le_refl _, by simp [zeroA, maxLen], rfl, Rd.nil _ _, Nat.le_refl _, by simp [zeroA, maxLen], rfl, Rd.nil _ _, Nat.le_refl _, by simp [zeroA, maxLen], rfl, Rd.nil _ _, Nat.le_refl _, by simp [zeroA, maxLen], rfl, Rd.nil _ _, Nat.le_refl _, by simp [zeroA, maxLen]⟩
structure MsgOk (m : MsgD) : Prop where
 wk : I64 m.k
 wf : I64 m.f
 wt : I64 m.t
 wd : I64 m.d
 wba : I64 m.ba
 wbn : I64 m.bn
 wL : ∀ t ∈ m.L, TxOk t
 wha : I64 m.ha
 whr : I64 m.hr
 whB : I64s m.hB
 whP : I64s m.hP
 wca : I64 m.ca
 wcr : I64 m.cr
 wcB : I64s m.cB
 wcP : I64s m.cP
 wcd : I64 m.cd
 wcS : I64s m.cS
 wD : I64s m.D
structure MsgFew (s : Nat) (a : MsgA) : Prop where
 sL : a.nL ≤ s
 shB : a.nhB ≤ s
 shP : a.nhP ≤ s
 scB : a.ncB ≤ s
 scP : a.ncP ≤ s
 scS : a.ncS ≤ s
 sD : a.nD ≤ s
theorem MsgFew.more {s s' : Nat} {a : MsgA} (h : MsgFew s a) (hs : s ≤ s') : MsgFew s' a := ⟨Nat.le_trans h.sL hs, Nat.le_trans h.shB hs, Nat.le_trans h.shP hs, Nat.le_trans h.scB hs, Nat.le_trans h.scP hs, Nat.le_trans h.scS hs, Nat.le_trans h.sD hs⟩

/-! ### which may be -/
def digB (d : Int) : Bool := decide (1 ≤ d ∧ d ≤ 65536)
/-! ### comparisons, part by part -/
def eqBatM (a n : Int) (L : List TxD) (a' n' : Int) (L' : List TxD) : Bool := decide (a = a' ∧ n = n' ∧ L = L')
def eqCer (a r : Int) (B P : List Int) (d : Int) (S : List Int) (a' r' : Int) (B' P' : List Int) (d' : Int) (S' : List Int) : Bool := decide ((a = a' ∧ r = r' ∧ B = B' ∧ P = P') ∧ d = d' ∧ S = S')
theorem msg_eq (m m' : MsgD) : decide (m = m') = (decide (m.k = m'.k) && (decide (m.f = m'.f) && (decide (m.t = m'.t) && (decide (m.d = m'.d) && (eqBatM m.ba m.bn m.L m'.ba m'.bn m'.L && (eqHdr m.ha m.hr m.hB m.hP m'.ha m'.hr m'.hB m'.hP && (eqCer m.ca m.cr m.cB m.cP m.cd m.cS m'.ca m'.cr m'.cB m'.cP m'.cd m'.cS && decide (m.D = m'.D)))))))) := by
 rw [Bool.eq_iff_iff]
 obtain ⟨x0, x1, x2, x3, x4, x5, x6, x7, x8, x9, x10, x11, x12, x13, x14, x15, x16, x17⟩ := m
 obtain ⟨y0, y1, y2, y3, y4, y5, y6, y7, y8, y9, y10, y11, y12, y13, y14, y15, y16, y17⟩ := m'
 simp only [Bool.and_eq_true, decide_eq_true_eq, eqBatM, eqHdr, eqCer, MsgD.mk.injEq]
 constructor
 ·rintro ⟨h1, h2, h3, h4, h5, h6, h7, h8, h9, h10, h11, h12, h13, h14, h15, h16, h17, h18⟩
  exact ⟨h1, h2, h3, h4, ⟨h5, h6, h7⟩, ⟨h8, h9, h10, h11⟩, ⟨⟨h12, h13, h14, h15⟩, h16, h17⟩, h18⟩
 ·rintro ⟨h1, h2, h3, h4, ⟨h5, h6, h7⟩, ⟨h8, h9, h10, h11⟩, ⟨⟨h12, h13, h14, h15⟩, h16, h17⟩, h18⟩
  exact ⟨h1, h2, h3, h4, h5, h6, h7, h8, h9, h10, h11, h12, h13, h14, h15, h16, h17, h18⟩
/-! ### a message's block -/
def Box (w : World) (g : Nat) (vs : List Value) : Prop := g < w.heap.size ∧ ∀ i v, vs[i]? = some v → w.cell? ⟨g, i, none⟩ = some v ∧ w.frozen? ⟨g, i, none⟩ = false
theorem Box.lt {w : World} {g : Nat} {vs : List Value} (h : Box w g vs) : g < w.heap.size := h.1
theorem Box.below {w w' : World} {g B : Nat} {vs : List Value} (h : Box w g vs) (hb : Below B w w') (hg : g < B) : Box w' g vs :=
 ⟨by have := hb.size; have := h.1; omega, fun i v hv => ⟨(hb.cell (p := ⟨g, i, none⟩) hg).trans (h.2 i v hv).1, (hb.frozen (p := ⟨g, i, none⟩) hg).trans (h.2 i v hv).2⟩⟩
theorem box_new (w : World) (vs : List Value) (t : TypeId) : Box (w.alloc (.cells vs.toArray t)) w.heap.size vs :=
 ⟨by simp, fun i v hv => ⟨by rw [World.cell?_alloc_at _ _ _ _ rfl]; simpa using hv, by rw [World.frozen?, heap_alloc_new]; simp⟩⟩
theorem Box.set {w : World} {g j : Nat} {u : Value} {vs : List Value} (h : Box w g vs) (hj : j < vs.length) : Box (w.setCell ⟨g, j, none⟩ u) g (vs.set j u) := by
 refine ⟨by simpa using h.1, fun i v hv => ?_⟩
 rw [World.frozen?_setCell]
 by_cases hij : i = j
 ·subst hij
  rw [List.getElem?_set_self hj] at hv
  simp only [Option.some.injEq] at hv
  subst hv
  obtain ⟨v0, hv0⟩ : ∃ v0, vs[i]? = some v0 := ⟨vs[i], by simp [hj]⟩
  exact ⟨World.cell?_setCell_same _ _ _ (h.2 i v0 hv0).1, (h.2 i v0 hv0).2⟩
 ·rw [List.getElem?_set_ne (by omega)] at hv
  exact ⟨(World.cell?_setCell_other _ _ _ _ (by simp)).trans (h.2 i v hv).1, (h.2 i v hv).2⟩
theorem Box.far {w : World} {g g' j : Nat} {u : Value} {vs : List Value} (h : Box w g vs) (hne : g ≠ g') : Box (w.setCell ⟨g', j, none⟩ u) g vs :=
 ⟨by simpa using h.1, fun i v hv => ⟨(World.cell?_setCell_other _ _ _ _ (by simp)).trans (h.2 i v hv).1, by rw [World.frozen?_setCell]; exact (h.2 i v hv).2⟩⟩

end Go.Proofs.YteepobghdpnabaaGreat
namespace Go.Proofs.YteepobghdpnabaaGreat
open Go.RowKit

theorem ret_bpair {a b : Bool} {x : Value} (h : a = b) : Ending.returned (.tuple #[.bool a, x]) = .returned (.tuple #[.bool b, x]) := by rw [h]

def Next (N : Int) (A : Option Addr) (c n k B : Nat) (t : Int) (w : World) (s : Nat → Bool) (a' : Act) (w' : World) : Prop :=
 Flags w' B s ∧ Below w.heap.size w w' ∧ ∃ u8 u12 u13 u14 u15 u16 u17 u18 u19 u20 u21 u22 u23 u24 u25 u26 u27 u28 u29 : Value, a' = { tmps := #[.int .i64 N, .slice A n c, undef, undef, .int .i64 0, .pointer (some ⟨B, 0, none⟩), .int .i64 t, undef, u8, .slice A n c, .int .i64 n, .int .i64 k, u12, u13, u14, u15, u16, u17, u18, u19, u20, u21, u22, u23, u24, u25, u26, u27, u28, u29, undef], defers := [] }

theorem flags_new (w : World) (T : TypeId) : Flags (w.alloc (.cells #[.bool false, .bool false, .bool false, .bool false, .bool false, .bool false, .bool false, .bool false, .bool false, .bool false, .bool false, .bool false, .bool false, .bool false, .bool false, .bool false, .bool false] T)) w.heap.size (fun _ => false) where
 lt := by simp
 cell := fun j hj => by
  rw [World.cell?_alloc_at _ _ _ _ rfl]
  match j, hj with
  | 0, _ | 1, _ | 2, _ | 3, _ | 4, _ | 5, _ | 6, _ | 7, _ | 8, _ | 9, _ | 10, _ | 11, _ | 12, _ | 13, _ | 14, _ | 15, _ | 16, _ => rfl
  | j + 17, h => exact absurd h (by omega)
 free := fun j => by rw [World.frozen?, heap_alloc_new]; simp
theorem Flags.set {w : World} {B x : Nat} {s u : Nat → Bool} (h : Flags w B s) (hx : u x = true) (e : ∀ j, j ≠ x → u j = s j) : Flags (w.setCell ⟨B, x, none⟩ (.bool true)) B u where
 lt := by have := h.lt; simp [World.setCell]; omega
 cell := fun j hj => by
  rcases Nat.decEq j x with hj' | rfl
  ·rw [World.cell?_setCell_other _ _ _ _ (by intro e; cases e; exact hj' rfl), h.cell j hj, e j hj']
  ·rw [World.cell?_setCell_same _ _ _ (h.cell j hj), hx]
 free := fun j => by rw [World.frozen?_setCell]; exact h.free j

set_option maxHeartbeats 1000000 in
theorem tally_any (N : Int) (A : Option Addr) (c n : Nat) (zs : List Int) (w : World) (hN : 1 ≤ N) (hN2 : N ≤ 16) (hz : zs.length = n) (hr : Rd w A (i64s zs)) (hn : n ≤ 1073741824) :
  Calls Tryz.prog 147 #[.int .i64 N, .slice A n c] w fun e w' => e = .returned (.int .i64 (tal N zs : Int)) ∧ Below w.heap.size w w' := by
 have HZ := Lib.hid hz
 have hfl := flags_new w 173
 have hf0 : Flags _ w.heap.size (seen N (zs.take 0)) := hfl.conv fun j => seen_nil N j
 have hfz := Lib.hid hf0
 have HT0 : Hid (tal N (zs.take 0) = 0) := tal_nil N
 clear hz hfl hf0
 go_enter Tryz.func147, Tryz.ntmps147
 go_wp2
 go_loopw [6, 11] (fun t i wr => ∃ k : Nat, i = .int .i64 k ∧ k ≤ n ∧ t = .int .i64 (tal N (zs.take k) : Int) ∧ Flags wr w.heap.size (seen N (zs.take k)) ∧ Below w.heap.size w wr) (fun _ i _ => n - (intOf i).toNat)
 case atStart => exact ⟨0, rfl, by omega, by rw [HT0.out]; rfl, hfz.out, (Below.refl _ _).alloc (Nat.le_refl _) _⟩
 case round =>
  obtain ⟨k, rfl, hk, rfl, hfk, hb⟩ := hrel
  have HFK := Lib.hid hfk
  have htl := tal_le N (zs.take k)
  obtain ⟨t, ht⟩ : ∃ t, t = tal N (zs.take k) := ⟨_, rfl⟩
  rw [← ht] at htl
  rw [← ht]
  have HT := Lib.hid ht
  clear hfk hfz ht
  by_cases hlt : k < n
  ·obtain ⟨b, off, rfl, hbl, hcell⟩ := (hr.below hb).open_ (by rw [i64s_length, HZ.out]; omega)
   have hat := at_some (l := zs) (k := k) (by rw [HZ.out]; exact hlt)
   have hc1 := hcell k _ (i64s_at (by rw [HZ.out]; exact hlt))
   clear hcell
   obtain ⟨y, hy⟩ : ∃ y, y = zs[k]?.getD 0 := ⟨_, rfl⟩
   rw [← hy] at hc1 hat
   have HAT := Lib.hid (take_one hat)
   clear hy hat
   have i0 : (0 : Int) ≤ (k : Int) := by omega
   have i1 : (k : Int) < (n : Int) := by omega
   by_cases hout : y < 1 ∨ N < y
   ·have HO := Lib.hid hout
    go_wp2
    refine wp_scope_jumps 0 (Next N (some ⟨b, off, none⟩) c n k w.heap.size t w (seen N (zs.take k))) (fun _ _ => 0) rfl ?_ ?_
    ·by_cases h1 : y < 1
     ·clear hout
      go_wp2
      go_step3
      exact ⟨rfl, HFK.out, hb, _, _, _, _, _, _, _, _, _, _, _, _, _, _, _, _, _, _, _, rfl⟩
     ·have h2 : N < y := by omega
      clear hout
      go_wp2
      go_step3
      exact ⟨rfl, HFK.out, hb, _, _, _, _, _, _, _, _, _, _, _, _, _, _, _, _, _, _, _, rfl⟩
    ·rintro a' w' ⟨hf', hb', u8, u12, u13, u14, u15, u16, u17, u18, u19, u20, u21, u22, u23, u24, u25, u26, u27, u28, u29, rfl⟩
     have HF2 := Lib.hid hf'
     clear hf' hout
     go_wp2
     rename_i hK
     refine hK _ _ ?_
     go_wp2
     go_roundw
     case rel => exact ⟨k + 1, by go_num, by omega, by rw [HAT.out, tal_out HO.out, ← HT.out], by rw [HAT.out]; exact HF2.out.conv fun j => seen_out HO.out j, hb'⟩
     case measure => simp [intOf]; omega
   ·obtain ⟨x, rfl⟩ : ∃ x : Nat, y = (x : Int) := ⟨y.toNat, by omega⟩
    have h1 : ¬ ((x : Int) < 1) := by omega
    have h2 : ¬ (N < (x : Int)) := by omega
    have h3 : x < 17 := by omega
    have h0 : (0 : Int) ≤ (x : Int) := by omega
    have h4 : (x : Int) < 17 := by omega
    have hcx := HFK.out.cell x h3
    have hfx := HFK.out.free x
    clear hout
    cases hs : seen N (zs.take k) x with
    | true =>
     rw [hs] at hcx
     have HS := Lib.hid hs
     clear hs
     go_wp2
     refine wp_scope_jumps 0 (Next N (some ⟨b, off, none⟩) c n k w.heap.size t w (seen N (zs.take k))) (fun _ _ => 0) rfl ?_ ?_
     ·go_wp2
      go_step3
      exact ⟨rfl, HFK.out, hb, _, _, _, _, _, _, _, _, _, _, _, _, _, _, _, _, _, _, _, rfl⟩
     ·rintro a' w' ⟨hf', hb', u8, u12, u13, u14, u15, u16, u17, u18, u19, u20, u21, u22, u23, u24, u25, u26, u27, u28, u29, rfl⟩
      have HF2 := Lib.hid hf'
      clear hf'
      go_wp2
      rename_i hK
      refine hK _ _ ?_
      go_wp2
      go_roundw
      case rel => exact ⟨k + 1, by go_num, by omega, by rw [HAT.out, tal_again HS.out, ← HT.out], by rw [HAT.out]; exact HF2.out.conv fun j => seen_again HS.out j, hb'⟩
      case measure => simp [intOf]; omega
    | false =>
     rw [hs] at hcx
     have HS := Lib.hid hs
     clear hs
     go_wp2
     refine wp_scope_jumps 0 (fun _ _ => False) (fun _ _ => 0) rfl ?_ ?_
     ·go_wp2
      go_step3
      rename_i hK _ _
      refine hK _ _ ?_
      go_wp2
      go_roundw
      case rel => exact ⟨k + 1, by go_num, by omega, by rw [HAT.out, tal_new HS.out (by omega) (by omega) h3, ← HT.out]; go_num, by rw [HAT.out]; exact HFK.out.set (seen_self (by omega) (by omega)) fun j hj => seen_other j hj, hb.setCell (Nat.le_refl _) _⟩
      case measure => simp [intOf]; omega
     ·rintro a' w' hf
      exact hf.elim
  ·have i1 : ¬ ((k : Int) < (n : Int)) := by omega
   have HTE := Lib.hid (show (t : Int) = (tal N zs : Int) by rw [HT.out, List.take_of_length_le (by rw [HZ.out]; omega)])
   go_wp2
   go_ret
   exact ⟨ret_int HTE.out, hb⟩

def enough (N : Int) (L : List Int) : Bool := decide (2 * (N / 3) + 1 ≤ (tal N L : Int))
set_option maxHeartbeats 400000 in
theorem enough_yes (N : Int) (A : Option Addr) (c n : Nat) (zs : List Int) (w : World) (hm : may N = true) (hz : zs.length = n) (hr : Rd w A (i64s zs)) (hn : n ≤ 1073741824) :
  Calls Tryz.prog 132 #[.int .i64 N, .slice A n c] w (Tells w.heap.size w (.tuple #[.bool (enough N zs), .int .i64 0])) := by
 obtain ⟨h1, h2, h3⟩ := may_yes hm
 have HZ := Lib.hid hz
 have HM := Lib.hid hm
 have HE : Hid (decide (2 * (N / 3) + 1 ≤ (tal N zs : Int)) = enough N zs) := rfl
 have htl := tal_le N zs
 clear hz hm h3
 obtain ⟨t, ht⟩ : ∃ t, t = tal N zs := ⟨_, rfl⟩
 have HT := Lib.hid ht
 rw [← ht] at HE htl
 clear ht
 go_enter Tryz.func132, Tryz.ntmps132
 go_wp2_with fail
 refine (quorum_yes _ HM.out _).mono ?_
 rintro e w' ⟨rfl, rfl⟩
 go_wp2_with fail
 refine (tally_any N A c n zs _ h1 h2 HZ.out hr hn).mono ?_
 rw [← HT.out]
 rintro e w' ⟨rfl, hb⟩
 go_wp2_with fail
 go_ret2
 exact ⟨ret_bpair HE.out, hb⟩
end Go.Proofs.YteepobghdpnabaaGreat
namespace Go.Proofs.YteepobghdpnabaaGreat
open Go.RowKit

structure WtD where
 d : Int
 S : List Int
deriving DecidableEq
structure HlD where
 d : Int
 a : Int
 n : Int
 L : List TxD
deriving DecidableEq
structure OtD where
 k : Int
 f : Int
 t : Int
 d : Int
 a : Int
 n : Int
 L : List TxD
deriving DecidableEq
structure WkD where
 i : Int
 N : Int
 x : Int
 O : List TxD
 g : Int
 c : Int
 W : List WtD
 H : List HlD
 R : List Int
deriving DecidableEq
def zeroW : WkD := ⟨0, 0, 0, [], 0, 0, [], [], []⟩
def WkD.ds (P : WkD) : List Int := P.W.map WtD.d
def WkD.hs (P : WkD) : List Int := P.H.map HlD.d

/-! ### where a number stands in a rising list -/
def posI : List Int → Int → Nat
 | [], _ => 0
 | y :: r, d => if y < d then posI r d + 1 else 0
theorem posI_le : ∀ (l : List Int) (d : Int), posI l d ≤ l.length
 | [], _ => Nat.le_refl _
 | y :: r, d => by
  have := posI_le r d
  rw [posI]
  split <;> simp <;> omega
theorem posI_below : ∀ {l : List Int} {d : Int} {j : Nat} {y : Int}, j < posI l d → l[j]? = some y → y < d
 | [], _, _, _, h, _ => by simp [posI] at h
 | z :: r, d, j, y, h, hj => by
  rw [posI] at h
  by_cases hz : z < d
  ·rw [if_pos hz] at h
   cases j with
   | zero => simp at hj; rw [← hj]; exact hz
   | succ j => exact posI_below (l := r) (d := d) (j := j) (by omega) (by simpa using hj)
  ·rw [if_neg hz] at h; omega
theorem posI_at : ∀ {l : List Int} {d : Int} {y : Int}, l[posI l d]? = some y → d ≤ y
 | [], _, _, h => by simp at h
 | z :: r, d, y, h => by
  rw [posI] at h
  by_cases hz : z < d
  ·rw [if_pos hz] at h
   exact posI_at (l := r) (by simpa using h)
  ·rw [if_neg hz] at h
   simp at h
   omega
def RiseI (l : List Int) : Prop := ∀ (i j : Nat) (x y : Int), i < j → l[i]? = some x → l[j]? = some y → x < y
theorem riseI_of {l : List Int} (h : ∀ (i : Nat) (x y : Int), l[i]? = some x → l[i + 1]? = some y → x < y) : RiseI l := by
 have key : ∀ (k i : Nat) (x y : Int), l[i]? = some x → l[i + 1 + k]? = some y → x < y := by
  intro k
  induction k with
  | zero => exact h
  | succ k ih =>
   intro i x y hx hy
   have hlt := (List.getElem?_eq_some_iff.1 hy).1
   obtain ⟨z, hz⟩ : ∃ z, l[i + 1 + k]? = some z := ⟨_, List.getElem?_eq_getElem (by omega)⟩
   have h1 := ih i x z hx hz
   have h2 := h (i + 1 + k) z y hz hy
   omega
 intro i j x y hij hx hy
 exact key (j - i - 1) i x y hx (by rw [show i + 1 + (j - i - 1) = j by omega]; exact hy)
theorem posI_unique {l : List Int} {d : Int} {p : Nat} (hp : p ≤ l.length) (h1 : ∀ k a, k < p → l[k]? = some a → a < d) (h2 : ∀ a, l[p]? = some a → d ≤ a) : p = posI l d := by
 rcases Nat.lt_trichotomy p (posI l d) with h | h | h
 ·have hl := posI_le l d
  obtain ⟨y, hy⟩ : ∃ y, l[p]? = some y := ⟨_, List.getElem?_eq_getElem (by omega)⟩
  have := posI_below h hy
  have := h2 y hy
  omega
 ·exact h
 ·obtain ⟨y, hy⟩ : ∃ y, l[posI l d]? = some y := ⟨_, List.getElem?_eq_getElem (by omega)⟩
  have := posI_at hy
  have := h1 _ y h hy
  omega
theorem mem_posI {l : List Int} {d : Int} (h : RiseI l) : d ∈ l ↔ l[posI l d]? = some d := by
 constructor
 ·intro hd
  obtain ⟨j, hj⟩ := List.mem_iff_getElem?.1 hd
  rcases Nat.lt_trichotomy j (posI l d) with h1 | h1 | h1
  ·have := posI_below h1 hj; omega
  ·rw [← h1]; exact hj
  ·have hlt := (List.getElem?_eq_some_iff.1 hj).1
   obtain ⟨y, hy⟩ : ∃ y, l[posI l d]? = some y := ⟨_, List.getElem?_eq_getElem (by omega)⟩
   have := posI_at hy
   have := h _ _ _ _ h1 hy hj
   omega
 ·exact fun h => List.mem_iff_getElem?.2 ⟨_, h⟩
def firstI : List Int → Int → Option Nat
 | [], _ => none
 | y :: r, d => if y = d then some 0 else (firstI r d).map (· + 1)
theorem firstI_none : ∀ {l : List Int} {d : Int}, d ∉ l → firstI l d = none
 | [], _, _ => rfl
 | y :: r, d, h => by
  rw [firstI, if_neg (fun e => h (by simp [e])), firstI_none (fun e => h (by simp [e]))]
  rfl
theorem firstI_some : ∀ {l : List Int} {d : Int} {k : Nat}, l[k]? = some d → (∀ j y, j < k → l[j]? = some y → y ≠ d) → firstI l d = some k
 | [], _, _, h, _ => by simp at h
 | y :: r, d, k, h, hb => by
  rw [firstI]
  cases k with
  | zero =>
   simp at h
   rw [if_pos h]
  | succ k =>
   rw [if_neg (hb 0 y (by omega) rfl), firstI_some (l := r) (k := k) (by simpa using h) (fun j z hj hz => hb (j + 1) z (by omega) (by simpa using hz))]
   rfl
theorem firstI_is {l : List Int} {d : Int} (h : RiseI l) : firstI l d = if d ∈ l then some (posI l d) else none := by
 by_cases hd : d ∈ l
 ·rw [if_pos hd]
  exact firstI_some ((mem_posI h).1 hd) fun j y hj hy => by have := posI_below hj hy; omega
 ·rw [if_neg hd, firstI_none hd]
def insAt {α : Type} (l : List α) (k : Nat) (x : α) : List α := l.take k ++ x :: l.drop k
theorem insAt_length {α : Type} (l : List α) (k : Nat) (x : α) (h : k ≤ l.length) : (insAt l k x).length = l.length + 1 := by
 simp [insAt]; omega

/-! ### a worker that may be -/
def HeldOk (l : List HlD) : Prop := ∀ (i : Nat) (x : HlD), l[i]? = some x → digB x.d = true ∧ batB x.a x.n x.L = true ∧ ∀ y, 0 < i → l[i - 1]? = some y → y.d < x.d
def WaitOk (N : Int) (l : List WtD) : Prop := ∀ (i : Nat) (x : WtD), l[i]? = some x → digB x.d = true ∧ risB x.S = true ∧ betB 1 N x.S = true ∧ ∀ y, 0 < i → l[i - 1]? = some y → y.d < x.d
def OnceOk (l : List Int) : Prop := ∀ (i : Nat) (x : Int), l[i]? = some x → x ∉ l.take i
structure MayW (P : WkD) : Prop where
 nodes : mayB P.N = true
 id : 1 ≤ P.i ∧ P.i ≤ P.N
 next : 1 ≤ P.x ∧ P.x ≤ 1099511627776
 few : P.O.length ≤ 64
 open_ : P.O.all txB = true
 age : 0 ≤ P.g ∧ P.g ≤ 1099511627776
 clock : 0 ≤ P.c ∧ P.c ≤ 1099511627776
 room : P.H.length ≤ 1024
 held : HeldOk P.H
 digs : betB 1 65536 P.R = true
 once : OnceOk P.R
 waits : WaitOk P.N P.W
open Classical in
noncomputable def mayW (P : WkD) : Bool := decide (MayW P)
theorem mayW_iff {P : WkD} : mayW P = true ↔ MayW P := by simp [mayW]
theorem mayW_no {P : WkD} (h : ¬ MayW P) : mayW P = false := by simp [mayW, h]
theorem MayW.hrise {P : WkD} (h : MayW P) : RiseI P.hs := riseI_of fun i x y hx hy => by
 simp only [WkD.hs, List.getElem?_map, Option.map_eq_some_iff] at hx hy
 obtain ⟨a, ha, rfl⟩ := hx
 obtain ⟨b, hb, rfl⟩ := hy
 exact (h.held (i + 1) b hb).2.2 a (by omega) (by simpa using ha)
theorem MayW.drise {P : WkD} (h : MayW P) : RiseI P.ds := riseI_of fun i x y hx hy => by
 simp only [WkD.ds, List.getElem?_map, Option.map_eq_some_iff] at hx hy
 obtain ⟨a, ha, rfl⟩ := hx
 obtain ⟨b, hb, rfl⟩ := hy
 exact (h.waits (i + 1) b hb).2.2.2 a (by omega) (by simpa using ha)

/-! ### what is done -/
def holdW (P : WkD) (d a n : Int) (L : List TxD) : WkD :=
 if d ∈ P.hs ∨ 1024 ≤ P.H.length then P else { P with H := insAt P.H (posI P.hs d) ⟨d, a, n, L⟩ }
def enoughW (P : WkD) (x : WtD) : Bool := enough P.N x.S
def settleW (P : WkD) : WkD :=
 { P with W := P.W.filter (fun x => !enoughW P x), R := P.R ++ ((P.W.filter (enoughW P)).map WtD.d).filter (fun d => decide (d ∉ P.R)) }
def dueW (P : WkD) : Bool := decide ((8 ≤ P.O.length ∨ (0 < P.O.length ∧ 4 ≤ P.g)) ∧ P.x < 1099511627776)
noncomputable def ifMay (P : WkD) (e : Int) : Int := if mayW P = true then e else 1
def makeE (P : WkD) : Int := if dueW P = true then (if 1024 ≤ P.H.length then 8 else 0) else 10
def makeL (P : WkD) : List TxD := P.O.take 8
def sealE (P : WkD) (d : Int) : Int := if makeE P ≠ 0 then makeE P else if digB d = true then (if d ∈ P.hs then 4 else 0) else 1
def toW (P : WkD) (S : List Int) : List Int := ((List.range P.N.toNat).map fun k : Nat => (k : Int) + 1).filter fun k => decide (k ≠ P.i ∧ k ∉ S)
def askW (P : WkD) (d a n : Int) (L : List TxD) (S : List Int) : List OtD := (toW P S).map fun k => ⟨1, P.i, k, d, a, n, L⟩
def waitW (P : WkD) (d : Int) : WkD := if d ∈ P.ds then P else { P with W := insAt P.W (posI P.ds d) ⟨d, [P.i]⟩ }
def sealM (P : WkD) (d : Int) : WkD := waitW (holdW { P with O := P.O.drop 8, x := P.x + 1, g := 0 } d P.i P.x (makeL P)) d
def sealW (P : WkD) (d : Int) : WkD := settleW (sealM P d)
def sealO (P : WkD) (d : Int) : List OtD := askW P d P.i P.x (makeL P) []
def withI (l : List Int) (n : Int) : List Int := if n ∈ l then l else insAt l (posI l n) n
def ackW (P : WkD) (d f : Int) : WkD := { P with W := P.W.map fun x => if x.d = d then { x with S := withI x.S f } else x }
def lookH : List HlD → Int → Option HlD
 | [], _ => none
 | x :: r, d => if x.d = d then some x else lookH r d
def takeW (P : WkD) (m : MsgD) : WkD :=
 if m.k = 1 ∨ m.k = 3 then holdW P m.d m.ba m.bn m.L else if m.k = 2 then settleW (ackW P m.d m.f) else P
def tickW (P : WkD) : WkD := { P with c := min (P.c + 1) 1099511627776, g := if 0 < P.O.length then min (P.g + 1) 1099511627776 else P.g }
def retryO (P : WkD) : List OtD := P.W.flatMap fun x => match lookH P.H x.d with
 | some y => askW P x.d y.a y.n y.L x.S
 | none => []
def tickO (P : WkD) : List OtD := if (tickW P).c % 3 = 0 then retryO P else []
def backL (R : List Int) : List Int → List Int → List Int
 | [], b => b
 | d :: r, b => backL R r (if digB d = true ∧ d ∉ R ∧ d ∉ b then b ++ [d] else b)
def addE (P : WkD) (t : TxD) : Int := if txB t = true then (if P.O.length < 64 then 0 else 8) else 1
def addW (P : WkD) (t : TxD) : WkD := { P with O := P.O ++ [t] }
def orW (e : Int) (P : WkD) : WkD := if e = 0 then P else zeroW
def orO (e : Int) (l : List OtD) : List OtD := if e = 0 then l else []
def newW (i N : Int) : WkD := ⟨i, N, 1, [], 0, 0, [], [], []⟩

theorem lookH_is : ∀ (l : List HlD) (d : Int), lookH l d = match firstI (l.map HlD.d) d with
  | some k => l[k]?
  | none => none
 | [], _ => rfl
 | x :: r, d => by
  rw [lookH, List.map_cons, firstI, lookH_is r d]
  by_cases h : x.d = d
  ·rw [if_pos h, if_pos h]; rfl
  ·rw [if_neg h, if_neg h]
   cases firstI (r.map HlD.d) d <;> simp
theorem lookH_no {l : List HlD} {d : Int} (h : d ∉ l.map HlD.d) : lookH l d = none := by rw [lookH_is, firstI_none h]
theorem lookH_at {l : List HlD} {d : Int} {x : HlD} (hr : RiseI (l.map HlD.d)) (hx : l[posI (l.map HlD.d) d]? = some x) (hd : d ∈ l.map HlD.d) : lookH l d = some x := by
 rw [lookH_is, firstI_is hr, if_pos hd]; exact hx
theorem orW_no {e : Int} (h : e ≠ 0) (P : WkD) : orW e P = zeroW := by rw [orW, if_neg h]
theorem orO_no {e : Int} (h : e ≠ 0) (l : List OtD) : orO e l = [] := by rw [orO, if_neg h]

end Go.Proofs.YteepobghdpnabaaGreat
namespace Go.Proofs.YteepobghdpnabaaGreat
open Go.RowKit

theorem take_set_up {α : Type} {l : List α} {j : Nat} {v : α} (h : j < l.length) : (l.set j v).take (j + 1) = l.take j ++ [v] := by
 rw [List.take_add_one, List.getElem?_set_self h, List.take_set_of_le (Nat.le_refl _)]
 rfl
theorem drop_set_up {α : Type} {l : List α} {j k : Nat} {v : α} (h : j < k) : (l.set j v).drop k = l.drop k := by
 rw [List.drop_set_of_lt h]
theorem box_setCells {g : Nat} : ∀ (cs : List Value) (j : Nat) (vs : List Value) (w : World), Box w g vs → j + cs.length ≤ vs.length → Box (w.setCells g j cs) g (vs.take j ++ cs ++ vs.drop (j + cs.length))
 | [], j, vs, _, h, _ => by
  have e : vs.take j ++ [] ++ vs.drop (j + ([] : List Value).length) = vs := by simp
  rw [e]
  exact h
 | v :: r, j, vs, w, h, hl => by
  simp only [List.length_cons] at hl
  have ih := box_setCells r (j + 1) (vs.set j v) (w.setCell ⟨g, j, none⟩ v) (h.set (by omega)) (by rw [List.length_set]; omega)
  rw [take_set_up (by omega), drop_set_up (by omega)] at ih
  have e : vs.take j ++ (v :: r) ++ vs.drop (j + (v :: r).length) = vs.take j ++ [v] ++ r ++ vs.drop (j + 1 + r.length) := by
   rw [List.length_cons, show j + (r.length + 1) = j + 1 + r.length by omega]
   simp
  rw [e]
  exact ih
theorem touch_setCells {F : Nat → Prop} {g : Nat} (hF : F g) : ∀ (cs : List Value) (j : Nat) (w0 w : World), Touch F w0 w → Touch F w0 (w.setCells g j cs)
 | [], _, _, _, h => h
 | v :: r, j, w0, _, h => touch_setCells hF r (j + 1) w0 _ (h.set (.inl hF) v)

section
variable {P : Program} {w : World}
theorem wpList_load_box {ops : Array Oper} {rest : List Oper} {op : Oper} {a : Act} {Q : Exit → Act → World → Prop} (hgd : op.guard = none) (ty : TypeId) (x : Operand) (ho : op.op = .load ty x)
  (g : Nat) (hx : a.eval x = .pointer (some ⟨g, 0, none⟩)) (cs : List Value) (hb : Box w g cs) (d : TypeDesc) (hu : P.underlying ty = some d) (hd : d.isRow = true) (hi : (P.info? ty).map (·.size) = some cs.length)
  (h : wpList P ops Q rest (a.put op.dst (.agg cs.toArray)) w) : wpList P ops Q (op :: rest) a w :=
 wpList_load_mid hgd ty x ho g 0 hx cs d (fun j v hv => by rw [Nat.zero_add]; exact (hb.2 j v hv).1) hu hd hi h
theorem there_box {g j n : Nat} {vs : List Value} (hb : Box w g vs) (hl : j + n ≤ vs.length) : w.there g j n := fun i hi => by
 obtain ⟨v, hv⟩ : ∃ v, vs[j + i]? = some v := ⟨vs[j + i], by simp [show j + i < vs.length by omega]⟩
 exact ⟨by rw [(hb.2 _ v hv).1]; rfl, (hb.2 _ v hv).2⟩
theorem wpList_store_box {ops : Array Oper} {rest : List Oper} {op : Oper} {a : Act} {Q : Exit → Act → World → Prop} (hgd : op.guard = none) (ty : TypeId) (x y : Operand) (ho : op.op = .store ty x y)
  (g j : Nat) (cs vs us : List Value) (hx : a.eval x = .pointer (some ⟨g, j, none⟩)) (hy : a.eval y = .agg cs.toArray) (hb : Box w g vs) (hl : j + cs.length ≤ vs.length) (hus : us = vs.take j ++ cs ++ vs.drop (j + cs.length))
  (hi : (P.info? ty).map (·.size) = some cs.length) (h1 : cs.all (·.oneCell') = true)
  (h : ∀ w', Box w' g us → (∀ F : Nat → Prop, F g → Touch F w w') → wpList P ops Q rest (a.put op.dst undef) w') : wpList P ops Q (op :: rest) a w :=
 wpList_store_mid hgd ty x y ho g j cs.toArray hx hy (by rw [List.size_toArray]; exact there_box hb hl) (by rw [List.size_toArray]; exact hi) (all_oneCell_toArray fun v hv => List.all_eq_true.1 h1 v hv)
  (h _ (by rw [hus]; exact box_setCells cs j vs w hb hl) (fun F hF => touch_setCells hF cs j w w (Touch.refl F w)))
theorem wpList_run_to {ops : Array Oper} {rest : List Oper} {o : Oper} {a : Act} {Q : Exit → Act → World → Prop} (hg : o.guard = none) (t : TypeId) (_ : o.op = .alloc t) (v : Value) (w' : World) (hrun : (execOp a.eval o).run P w = .ok (.value v) w')
  (h : wpList P ops Q rest (a.put o.dst v) w') : wpList P ops Q (o :: rest) a w := by
 refine wpList_plain hg fun K hK => ?_
 unfold Oper.wp
 rw [hrun, Oper.upon_value]
 exact hK _ _ h
end

end Go.Proofs.YteepobghdpnabaaGreat
