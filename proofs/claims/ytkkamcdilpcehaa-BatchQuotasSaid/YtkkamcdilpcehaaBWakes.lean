/-
  What wakes the statements on batches: one transaction's batch, its bytes, and back.
-/
import Derived.Test.YtkkamcdilpcehaaBContracts
import Derived.Test.YtkkamcdilpcehaaPageBytes
namespace Go.Proofs.Ytkkamcdilpcehaa
open Go.RowKit

def wakeT : TxD := ⟨1, 1, ⟨#[107]⟩, ⟨#[]⟩⟩
theorem wake_may : batB 1 1 [wakeT] = true := by decide

set_option maxRecDepth 100000 in
set_option maxHeartbeats 800000 in
theorem wakes_any (K : BContracts) (w : World) : Calls Try.prog 17 #[] w (Tells w.heap.size w (.bool true)) := by
  have HM := Lib.hid wake_may
  have HPA := Lib.hid (parse_put wake_may)
  have hsmall := bytes_small wake_may
  obtain ⟨nb, hnb⟩ : ∃ nb, (batBytes 1 1 [wakeT]).length = nb := ⟨_, rfl⟩
  rw [hnb] at hsmall
  have HNB := Lib.hid hnb
  have hr0 : Rd (w.alloc (.cells #[.int .i64 1, .int .i64 1, .string ⟨#[107]⟩, .string ⟨#[]⟩] 34)) (some ⟨w.heap.size, 0, none⟩) (txs [wakeT]) := by
    rw [txs_single]; exact rd_new w wakeT.cells _
  have hb0 : Below w.heap.size w (w.alloc (.cells #[.int .i64 1, .int .i64 1, .string ⟨#[107]⟩, .string ⟨#[]⟩] 34)) := (Below.refl _ _).alloc (Nat.le_refl _) _
  have HR0 := Lib.hid hr0
  have HB0 := Lib.hid hb0
  clear hnb hr0 hb0
  go_enter Try.func17, Try.ntmps17
  go_wp2_with fail
  refine (K.bytes_yes 1 1 _ 1 1 [wakeT] _ HM.out rfl HR0.out (by omega) (by simp [maxLen])).mono ?_
  rintro e w2 ⟨v2, rfl, ho2, hq2⟩
  have hb2 := HB0.out.trans (hq2.mono HB0.out.size)
  have ho2b := own_cast ho2 ((u8s_length _).trans HNB.out)
  obtain ⟨A2, d2, rfl, hd2, hm2, hr2, _, hl2⟩ := own_val ho2b
  clear hl2 ho2 ho2b hq2
  go_wp2_with fail
  refine (K.parse_yes A2 d2 nb _ 1 1 [wakeT] _ HPA.out HNB.out hr2 (batBytes_byts _ _ _) hd2 hm2 (by omega)).mono ?_
  rintro e w3 ⟨A3, c3, rfl, ho3, hq3⟩
  have hb3 := hb2.trans (hq3.mono hb2.size)
  go_wp2_with fail
  refine (num_any _ _).mono ?_
  rintro e w' ⟨rfl, rfl⟩
  go_wp2_with fail
  refine (num_any _ _).mono ?_
  rintro e w' ⟨rfl, rfl⟩
  go_wp2_with fail
  go_ret
  exact ⟨rfl, hb3.alloc hb3.size _⟩

end Go.Proofs.Ytkkamcdilpcehaa
