/-
  The walks on lists of transactions: copies, comparisons, the writing over of answers, their weight.
-/
import Derived.Test.YtkkamcdilpcehaaRows
import Derived.Test.YtkkamcdilpcehaaTx
import Derived.WalkSpells
import Derived.WalkLawsBesides
import Derived.Deep.QuietTactic
import Derived.BigQuiet
import Derived.LoopTactic
import Derived.Outline
import Derived.Laws.StructEq
namespace Go.Proofs.Ytkkamcdilpcehaa
open Go.RowKit

theorem info_tx : (Try.prog.info? 34).map (fun i => (i.zero, i.size, i.bytes)) = some (some (.agg #[.int .i64 0, .int .i64 0, .string ByteArray.empty, .string ByteArray.empty]), 4, 48) := by kernel_rfl

set_option maxHeartbeats 400000 in
theorem copyTxs_any (A : Option Addr) (c n : Nat) (L : List TxD) (w : World) (hz : L.length = n) (hr : Rd w A (txs L)) (hc : n ≤ c) (hn : n ≤ 1073741824) :
    Calls Try.prog 28 #[.slice A n c] w (MadeS 4 w.heap.size 34 w n (txs L)) := by
  have HZ := Lib.hid hz
  clear hz
  go_enter Try.func28, Try.ntmps28
  go_wp2
  go_loopw [3, 4] (fun v i wr => ∃ k : Nat, i = .int .i64 k ∧ k ≤ n ∧ wr.ownsRow w.heap.size 34 4 v k (txs (L.take k)) ∧ Below w.heap.size w wr) (fun _ i _ => n - (intOf i).toNat)
  case atStart => exact ⟨0, rfl, by omega, World.ownsRow_nil _ _ _ _, Below.refl _ _⟩
  case round =>
    obtain ⟨k, rfl, hk, hown, hb⟩ := hrel
    by_cases hlt : k < n
    · obtain ⟨b, off, ⟨ts, tq, tk, tv⟩, rfl, hbl, hat, c0, c1, c2, c3⟩ := (hr.below hb).tx (i := k) (by rw [HZ.out]; exact hlt)
      have HAT := Lib.hid (take_next hat)
      simp only at c0 c1 c2 c3
      clear hat
      go_wp2_with (at_builtin; refine wpList_app_elem _ rfl _ _ 24 rfl w.heap.size 34 _ 4 48 Try.underlying24 info_tx rfl (by decide) (by decide) _ k _ rfl (hown.alloc _) wr.heap.size (TxD.cells ⟨ts, tq, tk, tv⟩) rfl rfl (cells_new _ _ _) (cells_one _) (by omega) (by have := hb.size; simp; omega) ?_)
      intro v' w1 hown1 hb1
      have hown2 := ownS_conv (n' := k + 1) hown1 (ys := txs (L.take (k + 1))) (by rw [HAT.out, txs_append, txs_single]) rfl
      clear hown1 hown
      go_wp2
      go_roundw
      case rel => exact ⟨k + 1, by go_num, by omega, hown2, (hb.alloc hb.size _).trans hb1⟩
      case measure => simp [intOf]; omega
    · obtain rfl : k = n := by omega
      go_wp2
      go_ret
      rw [List.take_of_length_le (by rw [HZ.out]; omega)] at hown
      exact ⟨_, rfl, hown, hb⟩

theorem fields_tx : Try.prog.underlying 34 = some (.struct (Try.prog.fieldsOf 34)) := by kernel_rfl
theorem held_tx : Try.prog.stoodInHeld 34 = false := by kernel_rfl
theorem guard_tx : Try.prog.eqGuardType Try.prog.depth 34 = false := by kernel_rfl
theorem str_toList {a b : ByteArray} : a.toList = b.toList ↔ a = b := by
  constructor
  · intro h
    rw [ByteArray.toList_eq, ByteArray.toList_eq] at h
    obtain ⟨⟨x⟩⟩ := a
    obtain ⟨⟨y⟩⟩ := b
    simp at h
    rw [h]
  · rintro rfl; rfl
theorem neq_tx (w : World) (t u : TxD) : (binOp .neq 34 t.val u.val).run Try.prog w = .ok (.bool (!decide (t = u))) w := by
  unfold TxD.val
  rw [run_neq_struct, run_equalIn_struct _ _ _ _ _ fields_tx held_tx]
  simp only [Program.fieldsOf, Try.underlying34]
  go_simp
  obtain ⟨ts, tq, tk, tv⟩ := t
  obtain ⟨us, uq, uk, uv⟩ := u
  simp only [str_toList, TxD.mk.injEq]
  by_cases h0 : ts = us <;> by_cases h1 : tq = uq <;> by_cases h2 : tk = uk <;> by_cases h3 : tv = uv <;> simp [h0, h1, h2, h3]

theorem tx_take {L M : List TxD} {k : Nat} {t u : TxD} (h : L[k]? = some t) (g : M[k]? = some u) (e : L.take k = M.take k) (htu : t = u) : L.take (k + 1) = M.take (k + 1) := by
  rw [take_next h, take_next g, e, htu]
theorem tx_unlike {L M : List TxD} {k : Nat} {t u : TxD} (h : L[k]? = some t) (g : M[k]? = some u) (htu : t ≠ u) : decide (L = M) = false := by
  simp only [decide_eq_false_iff_not]
  intro e
  rw [e, g] at h
  exact htu (Option.some.inj h).symm

set_option maxHeartbeats 800000 in
theorem eqTxs_any (A A' : Option Addr) (c c' n n' : Nat) (L M : List TxD) (w : World) (hz : L.length = n) (hz' : M.length = n') (hr : Rd w A (txs L)) (hr' : Rd w A' (txs M)) (hn : n ≤ 1073741824) (hn' : n' ≤ 1073741824) :
    Calls Try.prog 30 #[.slice A n c, .slice A' n' c'] w fun e w' => e = .returned (.bool (decide (L = M))) ∧ ∃ d, w' = w.drewN d := by
  have HZ := Lib.hid hz
  have HZ' := Lib.hid hz'
  clear hz hz'
  by_cases hnn : n = n'
  · subst hnn
    go_enter Try.func30, Try.ntmps30
    go_wp2
    go_loopw [5] (fun i wr => ∃ k d : Nat, i = .int .i64 k ∧ k ≤ n ∧ Hid (L.take k = M.take k) ∧ wr = w.drewN d) (fun i _ => n - (intOf i).toNat)
    case atStart => exact ⟨0, 0, rfl, by omega, rfl, rfl⟩
    case round =>
      obtain ⟨k, d, rfl, hk, HE, rfl⟩ := hrel
      by_cases hlt : k < n
      · obtain ⟨b, off, ⟨ts, tq, tk, tv⟩, rfl, hbl, hat, c0, c1, c2, c3⟩ := hr.tx (i := k) (by rw [HZ.out]; exact hlt)
        obtain ⟨b', off', ⟨us, uq, uk, uv⟩, rfl, hbl', hat', d0, d1, d2, d3⟩ := hr'.tx (i := k) (by rw [HZ'.out]; exact hlt)
        have i0 : (0 : Int) ≤ (k : Int) := by omega
        have i1 : (k : Int) < (n : Int) := by omega
        simp only at c0 c1 c2 c3 d0 d1 d2 d3
        have hg := guard_tx
        have hne := fun w => neq_tx w ⟨ts, tq, tk, tv⟩ ⟨us, uq, uk, uv⟩
        by_cases htu : (⟨ts, tq, tk, tv⟩ : TxD) = ⟨us, uq, uk, uv⟩
        · have HT := Lib.hid (tx_take hat hat' HE.out htu)
          have hne2 : ∀ w, (binOp .neq 34 (.agg #[.int .i64 ts, .int .i64 tq, .string tk, .string tv]) (.agg #[.int .i64 us, .int .i64 uq, .string uk, .string uv])).run Try.prog w = .ok (.bool false) w := fun w => by
            have := hne w
            rw [decide_eq_true htu] at this
            exact this
          clear hat hat' hne htu
          go_wp2
          go_quiet (fail)
          go_wp2
          go_roundw
          case rel => exact ⟨k + 1, _, by go_num, by omega, HT.out, rfl⟩
          case measure => simp [intOf]; omega
        · have HT := Lib.hid (tx_unlike hat hat' htu)
          have hne2 : ∀ w, (binOp .neq 34 (.agg #[.int .i64 ts, .int .i64 tq, .string tk, .string tv]) (.agg #[.int .i64 us, .int .i64 uq, .string uk, .string uv])).run Try.prog w = .ok (.bool true) w := fun w => by
            have := hne w
            rw [decide_eq_false htu] at this
            exact this
          clear hat hat' hne htu
          go_wp2
          go_quiet (fail)
          go_wp2
          go_ret
          exact ⟨by rw [HT.out]; rfl, d + _, World.drewN_drewN _ _ _⟩
      · have i1 : ¬ ((k : Int) < (n : Int)) := by omega
        have hLM : L = M := by
          have := HE.out
          rwa [List.take_of_length_le (by rw [HZ.out]; omega), List.take_of_length_le (by rw [HZ'.out]; omega)] at this
        have HT : Hid (decide (L = M) = true) := by show decide (L = M) = true; simp [hLM]
        clear hLM
        go_wp2
        go_ret
        exact ⟨by rw [HT.out]; rfl, _, rfl⟩
  · have HT : Hid (decide (L = M) = false) := by
      show decide (L = M) = false
      simp only [decide_eq_false_iff_not]
      intro e
      have h1 := HZ.out
      have h2 := HZ'.out
      rw [e] at h1
      omega
    have j1 : ((n : Int) == (n' : Int)) = false := by simp; omega
    have j2 : ((n : Int) != (n' : Int)) = true := by simp; omega
    go_enter Try.func30, Try.ntmps30
    go_wp2
    go_ret
    exact ⟨by rw [HT.out]; rfl, 0, rfl⟩

end Go.Proofs.Ytkkamcdilpcehaa
