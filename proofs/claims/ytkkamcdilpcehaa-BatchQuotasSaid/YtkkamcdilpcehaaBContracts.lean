/-
  What the statements ask of package batch, call by call. And what they share.
-/
import Derived.Test.YtkkamcdilpcehaaPage
import Derived.Test.YtkkamcdilpcehaaBAsk
import Derived.Test.YtkkamcdilpcehaaMemBigStep
import Derived.Test.YtkkamcdilpcehaaEqs
namespace Go.Proofs.Ytkkamcdilpcehaa
open Go.RowKit

/-- package batch answers as the document says -/
structure BContracts : Prop where
  tx_yes : ∀ (t : TxD) (w : World), txB t = true → Calls Try.prog 11 #[t.val] w (Tells w.heap.size w (.int .i64 0))
  tx_no : ∀ (t : TxD) (w : World), txB t = false → Calls Try.prog 11 #[t.val] w (Tells w.heap.size w (.int .i64 1))
  check_yes : ∀ (a N : Int) (A : Option Addr) (c n : Nat) (L : List TxD) (w : World), batB a N L = true → L.length = n → Rd w A (txs L) → n ≤ c → c ≤ maxLen → Calls Try.prog 14 #[.agg #[.int .i64 a, .int .i64 N, .slice A n c]] w (Tells w.heap.size w (.int .i64 0))
  check_no : ∀ (a N : Int) (A : Option Addr) (c n : Nat) (L : List TxD) (w : World), batB a N L = false → L.length = n → Rd w A (txs L) → n ≤ c → c ≤ maxLen → Calls Try.prog 14 #[.agg #[.int .i64 a, .int .i64 N, .slice A n c]] w (Tells w.heap.size w (.int .i64 1))
  bytes_yes : ∀ (a N : Int) (A : Option Addr) (c n : Nat) (L : List TxD) (w : World), batB a N L = true → L.length = n → Rd w A (txs L) → n ≤ c → c ≤ maxLen → Calls Try.prog 18 #[.agg #[.int .i64 a, .int .i64 N, .slice A n c]] w (Made2 w.heap.size 5 w (u8s (batBytes a N L)) (.int .i64 0))
  bytes_no : ∀ (a N : Int) (A : Option Addr) (c n : Nat) (L : List TxD) (w : World), batB a N L = false → L.length = n → Rd w A (txs L) → n ≤ c → c ≤ maxLen → Calls Try.prog 18 #[.agg #[.int .i64 a, .int .i64 N, .slice A n c]] w (Tells w.heap.size w (.tuple #[.slice none 0 0, .int .i64 1]))
  parse_yes : ∀ (A : Option Addr) (c n : Nat) (zs : List Int) (a N : Int) (L : List TxD) (w : World), parseB zs = some (a, N, L) → zs.length = n → Rd w A (u8s zs) → Byts zs → n ≤ c → c ≤ maxLen → n ≤ 1000000 → Calls Try.prog 22 #[.slice A n c] w fun e w' =>
    ∃ A' c', e = .returned (.tuple #[.agg #[.int .i64 a, .int .i64 N, .slice A' L.length c'], .int .i64 0]) ∧ w'.ownsRow w.heap.size 34 4 (.slice A' L.length c') L.length (txs L) ∧ Below w.heap.size w w'
  parse_no : ∀ (A : Option Addr) (c n : Nat) (zs : List Int) (w : World), parseB zs = none → zs.length = n → Rd w A (u8s zs) → Byts zs → n ≤ c → c ≤ maxLen → n ≤ 1000000 → Calls Try.prog 22 #[.slice A n c] w (Tells w.heap.size w (.tuple #[.agg #[.int .i64 0, .int .i64 0, .slice none 0 0], .int .i64 1]))

theorem num_any (n : Int) (w : World) : Calls Try.prog 10 #[.int .i64 n] w fun e w' => e = .returned (.int .i64 n) ∧ w = w' := by
  go_enter Try.func10, Try.ntmps10
  go_wp2
  go_ret
  exact ⟨rfl, rfl⟩
theorem eqBatch_same (a N : Int) (A A' : Option Addr) (c c' n : Nat) (L : List TxD) (w : World) (hz : L.length = n) (hr : Rd w A (txs L)) (hr' : Rd w A' (txs L)) (hn : n ≤ 1073741824) :
    Calls Try.prog 16 #[.agg #[.int .i64 a, .int .i64 N, .slice A n c], .agg #[.int .i64 a, .int .i64 N, .slice A' n c']] w (Tells w.heap.size w (.bool true)) := by
  have h := eqBatch_any a N a N A A' c c' n n L L w hz hz hr hr' hn hn
  have e : eqBat a N L a N L = true := by simp [eqBat]
  rwa [e] at h
theorem eqBatch_is (b : Bool) (a N a' N' : Int) (A A' : Option Addr) (c c' n n' : Nat) (L M : List TxD) (w : World) (hb : eqBat a N L a' N' M = b) (hz : L.length = n) (hz' : M.length = n') (hr : Rd w A (txs L)) (hr' : Rd w A' (txs M)) (hn : n ≤ 1073741824) (hn' : n' ≤ 1073741824) :
    Calls Try.prog 16 #[.agg #[.int .i64 a, .int .i64 N, .slice A n c], .agg #[.int .i64 a', .int .i64 N', .slice A' n' c']] w (Tells w.heap.size w (.bool b)) :=
  hb ▸ eqBatch_any a N a' N' A A' c c' n n' L M w hz hz' hr hr' hn hn'

/-- the cells of a new block of three, in every later world -/
theorem box_three {wr w1 : World} {x y z : Value} {T : TypeId} (h : w1 = wr.alloc (.cells #[x, y, z] T)) : ∀ wX, Below w1.heap.size w1 wX →
    wX.cell? ⟨wr.heap.size, 0, none⟩ = some x ∧ wX.cell? ⟨wr.heap.size, 1, none⟩ = some y ∧ wX.cell? ⟨wr.heap.size, 2, none⟩ = some z := by
  subst h
  intro wX hb
  have hs : wr.heap.size < (wr.alloc (.cells #[x, y, z] T)).heap.size := by simp
  refine ⟨(hb.cell (p := ⟨wr.heap.size, 0, none⟩) hs).trans ?_, (hb.cell (p := ⟨wr.heap.size, 1, none⟩) hs).trans ?_, (hb.cell (p := ⟨wr.heap.size, 2, none⟩) hs).trans ?_⟩
  all_goals
    rw [World.cell?_alloc_at _ _ _ _ rfl]
    rfl
theorem Below.up {B : Nat} {w w1 wX : World} (h : Below B w w1) (hB : B ≤ w1.heap.size) (hX : Below w1.heap.size w1 wX) : Below B w wX := h.trans (hX.mono hB)

theorem quiet_left {P : Program} {f : FuncId} {args : Array Value} {w : World} {n : Nat} {v : Value}
    (h : Calls P f args (w.drewN n) fun e w' => e = .returned v ∧ w.drewN n = w') : Calls P f args (w.drewN n) fun e w'' => e = .returned v ∧ ∃ m, w'' = w.drewN m :=
  h.mono fun _ _ ⟨he, hm⟩ => ⟨he, n, hm.symm⟩
theorem rd_take {w : World} {A : Option Addr} {zs : List Int} (h : Rd w A (u8s zs)) (n : Nat) : Rd w A (u8s (zs.take n)) := fun hx => by
  have hl : 0 < (u8s zs).length := by
    rcases Nat.eq_zero_or_pos zs.length with h0 | h0
    · have e : zs = [] := List.eq_nil_of_length_eq_zero h0
      subst e
      simp [u8s] at hx
    · rw [u8s_length]; exact h0
  obtain ⟨b, off, e, hb, hc⟩ := h.open_ hl
  refine ⟨b, off, e, hb, fun i v hv => hc i v ?_⟩
  rw [u8s, List.getElem?_map] at hv
  rw [u8s, List.getElem?_map]
  rcases Nat.lt_or_ge i n with h' | h'
  · rwa [List.getElem?_take_of_lt h'] at hv
  · rw [List.getElem?_eq_none (by rw [List.length_take]; omega)] at hv; cases hv
theorem eq_bytes {a n a' n' : Int} {L L' : List TxD} (h : batB a n L = true) (h' : batB a' n' L' = true) : decide (batBytes a n L = batBytes a' n' L') = eqBat a n L a' n' L' := by
  rw [eqBat, decide_eq_decide]
  constructor
  · exact fun e => bytes_inj h h' e
  · rintro ⟨rfl, rfl, rfl⟩; rfl
theorem eqBytes_is (b : Bool) (A A' : Option Addr) (c c' n n' : Nat) (L M : List Int) (w : World) (hb : decide (L = M) = b) (hz : L.length = n) (hz' : M.length = n') (hr : Rd w A (u8s L)) (hr' : Rd w A' (u8s M)) (hn : n ≤ 1073741824) (hn' : n' ≤ 1073741824) :
    Calls Try.prog 19 #[.slice A n c, .slice A' n' c'] w fun e w' => e = .returned (.bool b) ∧ ∃ d, w' = w.drewN d :=
  hb ▸ eqBytes_any A A' c c' n n' L M w hz hz' hr hr' hn hn'

end Go.Proofs.Ytkkamcdilpcehaa
