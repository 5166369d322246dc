/-
  The walks on lists of numbers: the page's In and Count, the program's tally, Enough and Some; copies and comparisons.
-/
import Derived.Test.YtejkeccoialogaaWalks
import Derived.ScopeJumps
namespace Go.Proofs.Ytejkeccoialogaa
open Go.RowKit

/-- some index, and nothing turned -/
def SomeN (n : Nat) (w : World) (e : Ending) (w' : World) : Prop := ∃ k : Nat, k < n ∧ e = .returned (.int .i64 (k : Int)) ∧ w = w'
theorem ret_bpair {a b : Bool} {x : Value} (h : a = b) : Ending.returned (.tuple #[.bool a, x]) = .returned (.tuple #[.bool b, x]) := by rw [h]

set_option maxHeartbeats 400000 in
theorem in_yes (A : Option Addr) (c n : Nat) (zs : List Int) (x : Int) (w : World) (hx : x ∈ zs) (hz : zs.length = n) (hr : Rd w A (i64s zs)) (hn : n ≤ 1073741824) :
    Calls Try.prog 40 #[.slice A n c, .int .i64 x] w (SomeN n w) := by
  have HZ := Lib.hid hz
  have HX := Lib.hid hx
  clear hz hx
  go_enter Try.func40, Try.ntmps40
  go_wp2
  go_loop [5] (fun i => ∃ k : Nat, i = .int .i64 k ∧ k ≤ n ∧ x ∉ zs.take k) (fun i => n - (intOf i).toNat)
  case atStart => exact ⟨0, rfl, by omega, by simp⟩
  case round =>
    obtain ⟨k, rfl, hk, hno⟩ := hrel
    have HNO := Lib.hid hno
    clear hno
    by_cases hlt : k < n
    · obtain ⟨b, off, rfl, hbl, hcell⟩ := hr.open_ (by rw [i64s_length, HZ.out]; omega)
      have hat := at_some (l := zs) (k := k) (by rw [HZ.out]; exact hlt)
      have hc1 := hcell k _ (i64s_at (by rw [HZ.out]; exact hlt))
      clear hcell
      obtain ⟨y, hy⟩ : ∃ y, y = zs[k]?.getD 0 := ⟨_, rfl⟩
      rw [← hy] at hc1 hat
      have HAT := Lib.hid hat
      clear hy hat
      have i0 : (0 : Int) ≤ (k : Int) := by omega
      have i1 : (k : Int) < (n : Int) := by omega
      by_cases he : y = x
      · subst he
        go_wp2
        go_ret
        exact ⟨k, hlt, rfl, rfl⟩
      · have j1 : (y == x) = false := by simp [he]
        have HE := Lib.hid he
        clear he
        go_wp2
        go_round
        case rel => exact ⟨k + 1, by go_num, by omega, by
          rw [take_one HAT.out]
          intro hm
          rcases List.mem_append.1 hm with hm | hm
          · exact HNO.out hm
          · exact HE.out (List.mem_singleton.1 hm).symm⟩
        case measure => simp [intOf]; omega
    · exact absurd HX.out (by
        have h := HNO.out
        rwa [List.take_of_length_le (by rw [HZ.out]; omega)] at h)

set_option maxHeartbeats 400000 in
theorem in_no (A : Option Addr) (c n : Nat) (zs : List Int) (x : Int) (w : World) (hx : x ∉ zs) (hz : zs.length = n) (hr : Rd w A (i64s zs)) (hn : n ≤ 1073741824) :
    Calls Try.prog 40 #[.slice A n c, .int .i64 x] w fun e w' => e = .returned (.int .i64 (-1)) ∧ w = w' := by
  have HZ := Lib.hid hz
  have HX := Lib.hid hx
  clear hz hx
  go_enter Try.func40, Try.ntmps40
  go_wp2
  go_loop [5] (fun i => ∃ k : Nat, i = .int .i64 k ∧ k ≤ n) (fun i => n - (intOf i).toNat)
  case atStart => exact ⟨0, rfl, by omega⟩
  case round =>
    obtain ⟨k, rfl, hk⟩ := hrel
    by_cases hlt : k < n
    · obtain ⟨b, off, rfl, hbl, hcell⟩ := hr.open_ (by rw [i64s_length, HZ.out]; omega)
      have hat := at_some (l := zs) (k := k) (by rw [HZ.out]; exact hlt)
      have hc1 := hcell k _ (i64s_at (by rw [HZ.out]; exact hlt))
      clear hcell
      obtain ⟨y, hy⟩ : ∃ y, y = zs[k]?.getD 0 := ⟨_, rfl⟩
      rw [← hy] at hc1 hat
      have hne : y ≠ x := fun e => HX.out (e ▸ List.mem_of_getElem? hat)
      clear hy hat
      have i0 : (0 : Int) ≤ (k : Int) := by omega
      have i1 : (k : Int) < (n : Int) := by omega
      have j1 : (y == x) = false := by simp [hne]
      clear hne
      go_wp2
      go_round
      case rel => exact ⟨k + 1, by go_num, by omega⟩
      case measure => simp [intOf]; omega
    · have i1 : ¬ ((k : Int) < (n : Int)) := by omega
      go_wp2
      go_ret
      exact ⟨rfl, rfl⟩

theorem seen_le {N : Int} {L : List Int} {i : Nat} (h1 : 1 ≤ i) (h2 : (i : Int) ≤ N) : seen N L i = decide ((i : Int) ∈ L) := by
  simp only [seen]
  rw [decide_eq_decide]
  exact ⟨fun h => h.2.2, fun h => ⟨by omega, h2, h⟩⟩

/-- what holds where a number is passed by: all slots open but those that stay -/
def Next (N : Int) (A : Option Addr) (c n k B : Nat) (t : Int) (w : World) (s : Nat → Bool) (a' : Act) (w' : World) : Prop :=
  Flags w' B s ∧ Below w.heap.size w w' ∧ ∃ u8 u12 u13 u14 u15 u16 u17 u18 u19 u20 u21 u22 u23 u24 u25 u26 u27 u28 u29 : Value, a' = { tmps := #[.int .i64 N, .slice A n c, undef, undef, .int .i64 0, .pointer (some ⟨B, 0, none⟩), .int .i64 t, undef, u8, .slice A n c, .int .i64 n, .int .i64 k, u12, u13, u14, u15, u16, u17, u18, u19, u20, u21, u22, u23, u24, u25, u26, u27, u28, u29, undef], defers := [] }

theorem flags_new (w : World) (T : TypeId) : Flags (w.alloc (.cells #[.bool false, .bool false, .bool false, .bool false, .bool false, .bool false, .bool false, .bool false, .bool false, .bool false, .bool false, .bool false, .bool false, .bool false, .bool false, .bool false, .bool false] T)) w.heap.size (fun _ => false) where
  lt := by simp
  cell := fun j hj => by
    rw [World.cell?_alloc_at _ _ _ _ rfl]
    match j, hj with
    | 0, _ | 1, _ | 2, _ | 3, _ | 4, _ | 5, _ | 6, _ | 7, _ | 8, _ | 9, _ | 10, _ | 11, _ | 12, _ | 13, _ | 14, _ | 15, _ | 16, _ => rfl
    | j + 17, h => exact absurd h (by omega)
  free := fun j => by rw [World.frozen?, heap_alloc_new]; simp
theorem Flags.set {w : World} {B x : Nat} {s u : Nat → Bool} (h : Flags w B s) (hx : u x = true) (e : ∀ j, j ≠ x → u j = s j) : Flags (w.setCell ⟨B, x, none⟩ (.bool true)) B u where
  lt := by have := h.lt; simp [World.setCell]; omega
  cell := fun j hj => by
    rcases Nat.decEq j x with hj' | rfl
    · rw [World.cell?_setCell_other _ _ _ _ (by intro e; cases e; exact hj' rfl), h.cell j hj, e j hj']
    · rw [World.cell?_setCell_same _ _ _ (h.cell j hj), hx]
  free := fun j => by rw [World.frozen?_setCell]; exact h.free j

set_option maxHeartbeats 1000000 in
theorem tally_any (N : Int) (A : Option Addr) (c n : Nat) (zs : List Int) (w : World) (hN : 1 ≤ N) (hN2 : N ≤ 16) (hz : zs.length = n) (hr : Rd w A (i64s zs)) (hn : n ≤ 1073741824) :
    Calls Try.prog 112 #[.int .i64 N, .slice A n c] w fun e w' => e = .returned (.int .i64 (tal N zs : Int)) ∧ Below w.heap.size w w' := by
  have HZ := Lib.hid hz
  have hfl := flags_new w 127
  have hf0 : Flags _ w.heap.size (seen N (zs.take 0)) := hfl.conv fun j => seen_nil N j
  have hfz := Lib.hid hf0
  have HT0 : Hid (tal N (zs.take 0) = 0) := tal_nil N
  clear hz hfl hf0
  go_enter Try.func112, Try.ntmps112
  go_wp2
  go_loopw [6, 11] (fun t i wr => ∃ k : Nat, i = .int .i64 k ∧ k ≤ n ∧ t = .int .i64 (tal N (zs.take k) : Int) ∧ Flags wr w.heap.size (seen N (zs.take k)) ∧ Below w.heap.size w wr) (fun _ i _ => n - (intOf i).toNat)
  case atStart => exact ⟨0, rfl, by omega, by rw [HT0.out]; rfl, hfz.out, (Below.refl _ _).alloc (Nat.le_refl _) _⟩
  case round =>
    obtain ⟨k, rfl, hk, rfl, hfk, hb⟩ := hrel
    have HFK := Lib.hid hfk
    have htl := tal_le N (zs.take k)
    obtain ⟨t, ht⟩ : ∃ t, t = tal N (zs.take k) := ⟨_, rfl⟩
    rw [← ht] at htl
    rw [← ht]
    have HT := Lib.hid ht
    clear hfk hfz ht
    by_cases hlt : k < n
    · obtain ⟨b, off, rfl, hbl, hcell⟩ := (hr.below hb).open_ (by rw [i64s_length, HZ.out]; omega)
      have hat := at_some (l := zs) (k := k) (by rw [HZ.out]; exact hlt)
      have hc1 := hcell k _ (i64s_at (by rw [HZ.out]; exact hlt))
      clear hcell
      obtain ⟨y, hy⟩ : ∃ y, y = zs[k]?.getD 0 := ⟨_, rfl⟩
      rw [← hy] at hc1 hat
      have HAT := Lib.hid (take_one hat)
      clear hy hat
      have i0 : (0 : Int) ≤ (k : Int) := by omega
      have i1 : (k : Int) < (n : Int) := by omega
      by_cases hout : y < 1 ∨ N < y
      · have HO := Lib.hid hout
        go_wp2
        refine wp_scope_jumps 0 (Next N (some ⟨b, off, none⟩) c n k w.heap.size t w (seen N (zs.take k))) (fun _ _ => 0) rfl ?_ ?_
        · by_cases h1 : y < 1
          · clear hout
            go_wp2
            go_step3
            exact ⟨rfl, HFK.out, hb, _, _, _, _, _, _, _, _, _, _, _, _, _, _, _, _, _, _, _, rfl⟩
          · have h2 : N < y := by omega
            clear hout
            go_wp2
            go_step3
            exact ⟨rfl, HFK.out, hb, _, _, _, _, _, _, _, _, _, _, _, _, _, _, _, _, _, _, _, rfl⟩
        · rintro a' w' ⟨hf', hb', u8, u12, u13, u14, u15, u16, u17, u18, u19, u20, u21, u22, u23, u24, u25, u26, u27, u28, u29, rfl⟩
          have HF2 := Lib.hid hf'
          clear hf' hout
          go_wp2
          rename_i hK
          refine hK _ _ ?_
          go_wp2
          go_roundw
          case rel => exact ⟨k + 1, by go_num, by omega, by rw [HAT.out, tal_out HO.out, ← HT.out], by rw [HAT.out]; exact HF2.out.conv fun j => seen_out HO.out j, hb'⟩
          case measure => simp [intOf]; omega
      · obtain ⟨x, rfl⟩ : ∃ x : Nat, y = (x : Int) := ⟨y.toNat, by omega⟩
        have h1 : ¬ ((x : Int) < 1) := by omega
        have h2 : ¬ (N < (x : Int)) := by omega
        have h3 : x < 17 := by omega
        have h0 : (0 : Int) ≤ (x : Int) := by omega
        have h4 : (x : Int) < 17 := by omega
        have hcx := HFK.out.cell x h3
        have hfx := HFK.out.free x
        clear hout
        cases hs : seen N (zs.take k) x with
        | true =>
          rw [hs] at hcx
          have HS := Lib.hid hs
          clear hs
          go_wp2
          refine wp_scope_jumps 0 (Next N (some ⟨b, off, none⟩) c n k w.heap.size t w (seen N (zs.take k))) (fun _ _ => 0) rfl ?_ ?_
          · go_wp2
            go_step3
            exact ⟨rfl, HFK.out, hb, _, _, _, _, _, _, _, _, _, _, _, _, _, _, _, _, _, _, _, rfl⟩
          · rintro a' w' ⟨hf', hb', u8, u12, u13, u14, u15, u16, u17, u18, u19, u20, u21, u22, u23, u24, u25, u26, u27, u28, u29, rfl⟩
            have HF2 := Lib.hid hf'
            clear hf'
            go_wp2
            rename_i hK
            refine hK _ _ ?_
            go_wp2
            go_roundw
            case rel => exact ⟨k + 1, by go_num, by omega, by rw [HAT.out, tal_again HS.out, ← HT.out], by rw [HAT.out]; exact HF2.out.conv fun j => seen_again HS.out j, hb'⟩
            case measure => simp [intOf]; omega
        | false =>
          rw [hs] at hcx
          have HS := Lib.hid hs
          clear hs
          go_wp2
          refine wp_scope_jumps 0 (fun _ _ => False) (fun _ _ => 0) rfl ?_ ?_
          · go_wp2
            go_step3
            rename_i hK _ _
            refine hK _ _ ?_
            go_wp2
            go_roundw
            case rel => exact ⟨k + 1, by go_num, by omega, by rw [HAT.out, tal_new HS.out (by omega) (by omega) h3, ← HT.out]; go_num, by rw [HAT.out]; exact HFK.out.set (seen_self (by omega) (by omega)) fun j hj => seen_other j hj, hb.setCell (Nat.le_refl _) _⟩
            case measure => simp [intOf]; omega
          · rintro a' w' hf
            exact hf.elim
    · have i1 : ¬ ((k : Int) < (n : Int)) := by omega
      have HTE := Lib.hid (show (t : Int) = (tal N zs : Int) by rw [HT.out, List.take_of_length_le (by rw [HZ.out]; omega)])
      go_wp2
      go_ret
      exact ⟨ret_int HTE.out, hb⟩

/-- enough of these, or some, among N nodes? -/
def enough (N : Int) (L : List Int) : Bool := decide (2 * (N / 3) + 1 ≤ (tal N L : Int))
def some' (N : Int) (L : List Int) : Bool := decide (N / 3 + 1 ≤ (tal N L : Int))

set_option maxHeartbeats 400000 in
theorem enough_yes (N : Int) (A : Option Addr) (c n : Nat) (zs : List Int) (w : World) (hm : may N = true) (hz : zs.length = n) (hr : Rd w A (i64s zs)) (hn : n ≤ 1073741824) :
    Calls Try.prog 101 #[.int .i64 N, .slice A n c] w (Tells w.heap.size w (.tuple #[.bool (enough N zs), .int .i64 0])) := by
  obtain ⟨h1, h2, h3⟩ := may_yes hm
  have HZ := Lib.hid hz
  have HM := Lib.hid hm
  have HE : Hid (decide (2 * (N / 3) + 1 ≤ (tal N zs : Int)) = enough N zs) := rfl
  have htl := tal_le N zs
  clear hz hm h3
  obtain ⟨t, ht⟩ : ∃ t, t = tal N zs := ⟨_, rfl⟩
  have HT := Lib.hid ht
  rw [← ht] at HE htl
  clear ht
  go_enter Try.func101, Try.ntmps101
  go_wp2_with fail
  refine (quorum_yes _ HM.out _).mono ?_
  rintro e w' ⟨rfl, rfl⟩
  go_wp2_with fail
  refine (tally_any N A c n zs _ h1 h2 HZ.out hr hn).mono ?_
  rw [← HT.out]
  rintro e w' ⟨rfl, hb⟩
  go_wp2_with fail
  go_ret2
  exact ⟨ret_bpair HE.out, hb⟩
theorem enough_no (N : Int) (A : Option Addr) (c n : Nat) (w : World) (hm : may N = false) :
    Calls Try.prog 101 #[.int .i64 N, .slice A n c] w fun e w' => e = .returned (.tuple #[.bool false, .int .i64 1]) ∧ w = w' := by
  have HM := Lib.hid hm
  clear hm
  go_enter Try.func101, Try.ntmps101
  go_wp2_with (go_at_call 110; refine (quorum_no _ HM.out _).mono ?_; rintro e w' ⟨rfl, rfl⟩)
  go_ret2
  exact ⟨rfl, rfl⟩
end Go.Proofs.Ytejkeccoialogaa
