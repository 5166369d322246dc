/-
  Texts as bytes and back, whole numbers as numbers: on plain lists. Of no program.
-/
import Derived.Test.YtejkeccoialogaaCodec
import Derived.Test.YtejkeccoialogaaMem
namespace Go.Proofs.Ytejkeccoialogaa
open Go.RowKit

/-- the list that a text of bytes is, and back -/
theorem byt_of {xs : List Int} (h : Byts xs) : byt (strOfNums xs) = xs := by
  unfold byt
  rw [strOfNums_data, List.map_map]
  conv => rhs; rw [← List.map_id xs]
  apply List.map_congr_left
  intro x hx
  have := h x hx
  unfold Byt at this
  simp only [Function.comp, id]
  rw [UInt8.toNat_ofNat']
  omega
theorem strOfNums_byt (s : ByteArray) : strOfNums (byt s) = s := by
  apply byt_inj
  exact byt_of (by
    intro x hx
    unfold byt at hx
    obtain ⟨b, _, rfl⟩ := List.mem_map.1 hx
    have := UInt8.toNat_lt b
    exact ⟨by omega, by omega⟩)
theorem byt_byts (s : ByteArray) : Byts (byt s) := by
  intro x hx
  unfold byt at hx
  obtain ⟨b, _, rfl⟩ := List.mem_map.1 hx
  have := UInt8.toNat_lt b
  exact ⟨by omega, by omega⟩

/-- whole numbers that are not below 0, as cells -/
def nats (l : List Nat) : List Int := l.map fun m : Nat => (m : Int)
theorem nats_at {l : List Nat} {i : Nat} (h : i < l.length) : (nats l)[i]?.getD 0 = ((l[i]?.getD 0 : Nat) : Int) := by simp [nats, h]
theorem nats_length (l : List Nat) : (nats l).length = l.length := by simp [nats]
theorem getD_some {α : Type} {l : List α} {i : Nat} {d : α} (h : i < l.length) : l[i]? = some (l[i]?.getD d) := by simp [h]
theorem getD_mem {α : Type} {l : List α} {i : Nat} {d : α} (h : i < l.length) : l[i]?.getD d ∈ l := by simp [h]

end Go.Proofs.Ytejkeccoialogaa
