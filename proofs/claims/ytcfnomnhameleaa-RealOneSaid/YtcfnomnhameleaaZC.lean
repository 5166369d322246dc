/-
  The walks on lists of transactions: copies, comparisons, the writing over of answers, their weight.
-/
import Derived.Test.YtcfnomnhameleaaRows
import Derived.Test.YtcfnomnhameleaaZA
import Derived.WalkSpells
import Derived.WalkLawsBesides
import Derived.Deep.QuietTactic
import Derived.BigQuiet
import Derived.LoopTactic
import Derived.Outline
import Derived.Laws.StructEq
import Derived.IntWalk
namespace Go.Proofs.Ytcfnomnhameleaa
open Go.RowKit

theorem info_tx : (Try.prog.info? 99).map (fun i => (i.zero, i.size, i.bytes)) = some (some (.agg #[.int .i64 0, .int .i64 0, .string ByteArray.empty, .string ByteArray.empty]), 4, 48) := by kernel_rfl

set_option maxHeartbeats 400000 in
theorem copyTxs_any (A : Option Addr) (c n : Nat) (L : List TxD) (w : World) (hz : L.length = n) (hr : Rd w A (txs L)) (hc : n ≤ c) (hn : n ≤ 1073741824) :
    Calls Try.prog 61 #[.slice A n c] w (MadeS 4 w.heap.size 99 w n (txs L)) := by
  have HZ := Lib.hid hz
  clear hz
  go_enter Try.func61, Try.ntmps61
  go_wp2
  go_loopw [3, 4] (fun v i wr => ∃ k : Nat, i = .int .i64 k ∧ k ≤ n ∧ wr.ownsRow w.heap.size 99 4 v k (txs (L.take k)) ∧ Below w.heap.size w wr) (fun _ i _ => n - (intOf i).toNat)
  case atStart => exact ⟨0, rfl, by omega, World.ownsRow_nil _ _ _ _, Below.refl _ _⟩
  case round =>
    obtain ⟨k, rfl, hk, hown, hb⟩ := hrel
    by_cases hlt : k < n
    · obtain ⟨b, off, ⟨ts, tq, tk, tv⟩, rfl, hbl, hat, c0, c1, c2, c3⟩ := (hr.below hb).tx (i := k) (by rw [HZ.out]; exact hlt)
      have HAT := Lib.hid (take_next hat)
      simp only at c0 c1 c2 c3
      clear hat
      go_wp2_with (at_builtin; refine wpList_app_elem _ rfl _ _ 34 rfl w.heap.size 99 _ 4 48 Try.underlying34 info_tx rfl (by decide) (by decide) _ k _ rfl (hown.alloc _) wr.heap.size (TxD.cells ⟨ts, tq, tk, tv⟩) rfl rfl (cells_new _ _ _) (cells_one _) (by omega) (by have := hb.size; simp; omega) ?_)
      intro v' w1 hown1 hb1
      have hown2 := ownS_conv (n' := k + 1) hown1 (ys := txs (L.take (k + 1))) (by rw [HAT.out, txs_append, txs_single]) rfl
      clear hown1 hown
      go_wp2
      go_roundw
      case rel => exact ⟨k + 1, by go_num, by omega, hown2, (hb.alloc hb.size _).trans hb1⟩
      case measure => simp [intOf]; omega
    · obtain rfl : k = n := by omega
      go_wp2
      go_ret
      rw [List.take_of_length_le (by rw [HZ.out]; omega)] at hown
      exact ⟨_, rfl, hown, hb⟩

theorem fields_tx : Try.prog.underlying 99 = some (.struct (Try.prog.fieldsOf 99)) := by kernel_rfl
theorem held_tx : Try.prog.stoodInHeld 99 = false := by kernel_rfl
theorem guard_tx : Try.prog.eqGuardType Try.prog.depth 99 = false := by kernel_rfl
theorem str_toList {a b : ByteArray} : a.toList = b.toList ↔ a = b := by
  constructor
  · intro h
    rw [ByteArray.toList_eq, ByteArray.toList_eq] at h
    obtain ⟨⟨x⟩⟩ := a
    obtain ⟨⟨y⟩⟩ := b
    simp at h
    rw [h]
  · rintro rfl; rfl
theorem neq_tx (w : World) (t u : TxD) : (binOp .neq 99 t.val u.val).run Try.prog w = .ok (.bool (!decide (t = u))) w := by
  unfold TxD.val
  rw [run_neq_struct, run_equalIn_struct _ _ _ _ _ fields_tx held_tx]
  simp only [Program.fieldsOf, Try.underlying99]
  go_simp
  obtain ⟨ts, tq, tk, tv⟩ := t
  obtain ⟨us, uq, uk, uv⟩ := u
  simp only [str_toList, TxD.mk.injEq]
  by_cases h0 : ts = us <;> by_cases h1 : tq = uq <;> by_cases h2 : tk = uk <;> by_cases h3 : tv = uv <;> simp [h0, h1, h2, h3]

theorem tx_take {L M : List TxD} {k : Nat} {t u : TxD} (h : L[k]? = some t) (g : M[k]? = some u) (e : L.take k = M.take k) (htu : t = u) : L.take (k + 1) = M.take (k + 1) := by
  rw [take_next h, take_next g, e, htu]
theorem tx_unlike {L M : List TxD} {k : Nat} {t u : TxD} (h : L[k]? = some t) (g : M[k]? = some u) (htu : t ≠ u) : decide (L = M) = false := by
  simp only [decide_eq_false_iff_not]
  intro e
  rw [e, g] at h
  exact htu (Option.some.inj h).symm

set_option maxHeartbeats 800000 in
theorem eqTxs_any (A A' : Option Addr) (c c' n n' : Nat) (L M : List TxD) (w : World) (hz : L.length = n) (hz' : M.length = n') (hr : Rd w A (txs L)) (hr' : Rd w A' (txs M)) (hn : n ≤ 1073741824) (hn' : n' ≤ 1073741824) :
    Calls Try.prog 75 #[.slice A n c, .slice A' n' c'] w fun e w' => e = .returned (.bool (decide (L = M))) ∧ ∃ d, w' = w.drewN d := by
  have HZ := Lib.hid hz
  have HZ' := Lib.hid hz'
  clear hz hz'
  by_cases hnn : n = n'
  · subst hnn
    go_enter Try.func75, Try.ntmps75
    go_wp2
    go_loopw [5] (fun i wr => ∃ k d : Nat, i = .int .i64 k ∧ k ≤ n ∧ Hid (L.take k = M.take k) ∧ wr = w.drewN d) (fun i _ => n - (intOf i).toNat)
    case atStart => exact ⟨0, 0, rfl, by omega, rfl, rfl⟩
    case round =>
      obtain ⟨k, d, rfl, hk, HE, rfl⟩ := hrel
      by_cases hlt : k < n
      · obtain ⟨b, off, ⟨ts, tq, tk, tv⟩, rfl, hbl, hat, c0, c1, c2, c3⟩ := hr.tx (i := k) (by rw [HZ.out]; exact hlt)
        obtain ⟨b', off', ⟨us, uq, uk, uv⟩, rfl, hbl', hat', d0, d1, d2, d3⟩ := hr'.tx (i := k) (by rw [HZ'.out]; exact hlt)
        have i0 : (0 : Int) ≤ (k : Int) := by omega
        have i1 : (k : Int) < (n : Int) := by omega
        simp only at c0 c1 c2 c3 d0 d1 d2 d3
        have hg := guard_tx
        have hne := fun w => neq_tx w ⟨ts, tq, tk, tv⟩ ⟨us, uq, uk, uv⟩
        by_cases htu : (⟨ts, tq, tk, tv⟩ : TxD) = ⟨us, uq, uk, uv⟩
        · have HT := Lib.hid (tx_take hat hat' HE.out htu)
          have hne2 : ∀ w, (binOp .neq 99 (.agg #[.int .i64 ts, .int .i64 tq, .string tk, .string tv]) (.agg #[.int .i64 us, .int .i64 uq, .string uk, .string uv])).run Try.prog w = .ok (.bool false) w := fun w => by
            have := hne w
            rw [decide_eq_true htu] at this
            exact this
          clear hat hat' hne htu
          go_wp2
          go_quiet (fail)
          go_wp2
          go_roundw
          case rel => exact ⟨k + 1, _, by go_num, by omega, HT.out, rfl⟩
          case measure => simp [intOf]; omega
        · have HT := Lib.hid (tx_unlike hat hat' htu)
          have hne2 : ∀ w, (binOp .neq 99 (.agg #[.int .i64 ts, .int .i64 tq, .string tk, .string tv]) (.agg #[.int .i64 us, .int .i64 uq, .string uk, .string uv])).run Try.prog w = .ok (.bool true) w := fun w => by
            have := hne w
            rw [decide_eq_false htu] at this
            exact this
          clear hat hat' hne htu
          go_wp2
          go_quiet (fail)
          go_wp2
          go_ret
          exact ⟨by rw [HT.out]; rfl, d + _, World.drewN_drewN _ _ _⟩
      · have i1 : ¬ ((k : Int) < (n : Int)) := by omega
        have hLM : L = M := by
          have := HE.out
          rwa [List.take_of_length_le (by rw [HZ.out]; omega), List.take_of_length_le (by rw [HZ'.out]; omega)] at this
        have HT : Hid (decide (L = M) = true) := by show decide (L = M) = true; simp [hLM]
        clear hLM
        go_wp2
        go_ret
        exact ⟨by rw [HT.out]; rfl, _, rfl⟩
  · have HT : Hid (decide (L = M) = false) := by
      show decide (L = M) = false
      simp only [decide_eq_false_iff_not]
      intro e
      have h1 := HZ.out
      have h2 := HZ'.out
      rw [e] at h1
      omega
    have j1 : ((n : Int) == (n' : Int)) = false := by simp; omega
    have j2 : ((n : Int) != (n' : Int)) = true := by simp; omega
    go_enter Try.func75, Try.ntmps75
    go_wp2
    go_ret
    exact ⟨by rw [HT.out]; rfl, 0, rfl⟩

end Go.Proofs.Ytcfnomnhameleaa
/-
  Transactions' weight, and answers written over.
-/
namespace Go.Proofs.Ytcfnomnhameleaa
open Go.RowKit

/-- the bytes of the first j transactions -/
def totX (L : List TxD) (j : Nat) : Nat := ((L.take j).map fun t => t.k.size + t.v.size).sum
theorem totX_zero (L : List TxD) : totX L 0 = 0 := by simp [totX]
theorem totX_step {L : List TxD} {j : Nat} {t : TxD} (h : L[j]? = some t) : totX L (j + 1) = totX L j + (t.k.size + t.v.size) := by
  unfold totX; rw [take_next h]; simp

def WeighsX (n : Nat) (L : List TxD) (w : World) (en : Ending) (w' : World) : Prop := ∃ S d : Nat, en = .returned (.int .i64 S) ∧ w' = w.drewN d ∧ (S ≤ 100000 → n + totX L n = S)

set_option maxRecDepth 100000 in
set_option maxHeartbeats 800000 in
theorem txWeight_any (A : Option Addr) (c n : Nat) (L : List TxD) (w : World) (hz : L.length = n) (hr : Rd w A (txs L)) (hs : ∀ t ∈ L, t.k.size ≤ 140737488351232 ∧ t.v.size ≤ 140737488351232) (hc : n ≤ c) (hm : c ≤ maxLen) :
    Calls Try.prog 80 #[.slice A n c] w (WeighsX n L w) := by
  unfold maxLen at hm
  have HZ := Lib.hid hz
  have HS := Lib.hid hs
  clear hz hs
  go_enter Try.func80, Try.ntmps80
  go_wp2_with fail
  go_loopw [3, 4] (fun x i wr => ∃ j S d : Nat, i = .int .i64 j ∧ x = .int .i64 S ∧ j ≤ n ∧ S ≤ 9223372036854775807 ∧ Hid (S = n + totX L j) ∧ wr = w.drewN d) (fun _ i _ => n - (intOf i).toNat)
  case atStart => exact ⟨0, n, 0, rfl, rfl, by omega, by omega, by show n = n + totX L 0; rw [totX_zero]; rfl, rfl⟩
  case round =>
    obtain ⟨j, S, d, rfl, rfl, hj, hS, HSe, rfl⟩ := hrel
    by_cases hlt : j < n
    · have i0 : (0 : Int) ≤ (j : Int) := by omega
      have i1 : (j : Int) < (n : Int) := by omega
      obtain ⟨b, off, ⟨ts, tq, tk, tv⟩, rfl, hbl, hat, c0, c1, c2, c3⟩ := hr.tx (i := j) (by rw [HZ.out]; exact hlt)
      obtain ⟨z1, z2⟩ := HS.out _ (List.mem_of_getElem? hat)
      have hst := totX_step hat
      simp only at c2 c3 z1 z2 hst
      have HST := Lib.hid hst
      clear c0 c1 hat hst
      by_cases hlt20 : S < 1048576
      · have i2 : (S : Int) < 1048576 := by omega
        have s1 : IntKind.i64.wrap ((S : Int) + (tk.size : Int)) = (S : Int) + (tk.size : Int) := IntWalk.i64_in _ (by omega)
        have s2 : IntKind.i64.wrap ((S : Int) + (tk.size : Int) + (tv.size : Int)) = (S : Int) + (tk.size : Int) + (tv.size : Int) := IntWalk.i64_in _ (by omega)
        go_wp2_with fail
        go_quiet (fail)
        go_wp2_with fail
        go_roundw
        case rel => exact ⟨j + 1, S + tk.size + tv.size, _, by go_num, by go_num, by omega, by omega, by show S + tk.size + tv.size = n + totX L (j + 1); have h1 := HSe.out; have h2 := HST.out; omega, rfl⟩
        case measure => simp [intOf]; omega
      · have i2 : ¬ ((S : Int) < 1048576) := by omega
        go_wp2_with fail
        go_ret
        exact ⟨S, d, rfl, rfl, fun h => absurd h (by omega)⟩
    · obtain rfl : j = n := by omega
      have i1 : ¬ ((j : Int) < (j : Int)) := by omega
      go_wp2_with fail
      go_ret
      exact ⟨S, d, rfl, rfl, fun _ => HSe.out.symm⟩

end Go.Proofs.Ytcfnomnhameleaa
