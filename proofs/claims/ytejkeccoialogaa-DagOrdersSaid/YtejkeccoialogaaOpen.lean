/-
  Arguments that came in, laid open: numbers, texts, bytes in slices. And their weights.
-/
import Derived.Test.YtejkeccoialogaaRows
import Derived.Test.YtejkeccoialogaaMem
import Derived.Test.YtejkeccoialogaaCodec
import Derived.ProofKit
import Derived.OpenShut
import Derived.SliceStrings
import Derived.ChangeSlices
import Derived.Deep.Slices
import Derived.Deep.Fields
import Derived.ChangeOld
import Derived.Carry
import Derived.SizedLaws
namespace Go.Proofs.Ytejkeccoialogaa
open Go.RowKit Go.ChangeShapes Go.WideShapes Go.Deep

theorem lt_of_cell {w : World} {a : Addr} {v : Value} (h : w.cell? a = some v) : a.block < w.heap.size := by
  rcases Nat.lt_or_ge a.block w.heap.size with hl | hl
  · exact hl
  · have e : w.heap[a.block]? = none := by simp; omega
    simp [World.cell?, e] at h

/-- a slice whose first cells are known reads as a list -/
theorem rd_of {w : World} {a : Addr} {xs : List Value} (h : ∀ i v, xs[i]? = some v → w.cell? (a.add i) = some v) : Rd w (some a) xs := fun hx => by
  obtain ⟨x, l, rfl⟩ := List.exists_cons_of_ne_nil hx
  have h0 := h 0 x rfl
  have hsp : a.spot = none := by
    have := World.cell?_spot h0
    simpa [Addr.add] using this
  obtain ⟨b, off, spot⟩ := a
  subst hsp
  refine ⟨b, off, rfl, ?_, fun i v hv => ?_⟩
  · rw [Addr.add_lit] at h0; exact lt_of_cell h0
  · have := h i v hv
    rwa [Addr.add_lit] at this

section
variable {H : Type} {enc : TypeId × Value → H} {P : Program} {w : World} {base : Nat} {spare : Nat → Bool} {held : Bool} {t e : TypeId} {fuel : Nat} {v : Value} {x : DataW H × List MemPlace}
theorem open_nums {k : IntKind} (ht : P.underlying t = some (.slice e)) (he : P.underlying e = some (.int k)) (hc : P.cellsOf e = 1) (h : DataW.trod enc P w base spare held fuel t [v] = some x) :
    ∃ (A : Option Addr) (c : Nat) (zs : List Int), v = .slice A zs.length c ∧ zs.length ≤ c ∧ c ≤ maxLen ∧ Rd w A (zs.map (Value.int k)) ∧ ∀ n ∈ zs, (Lit.int k n).wf = true := by
  rcases open_ints ht he hc h with ⟨h0, _⟩ | ⟨a, len, cap, zs, h0, _, hl, hm, hz, _, hcell, hwf⟩
  · simp only [List.cons.injEq, and_true] at h0
    subst h0
    exact ⟨none, 0, [], rfl, by simp, by simp [maxLen], Rd.nil _ _, fun n hn => by simp at hn⟩
  · simp only [List.cons.injEq, and_true] at h0
    subst h0
    have hlen : len ≤ zs.length := by rw [hz]; split <;> omega
    have htl : (zs.take len).length = len := by rw [List.length_take]; omega
    refine ⟨some a, cap, zs.take len, by rw [htl], by omega, hm, rd_of fun i u hu => ?_, fun n hn => hwf n (List.mem_of_mem_take hn)⟩
    have hi : i < len := by
      rcases Nat.lt_or_ge i len with h' | h'
      · exact h'
      · rw [List.getElem?_eq_none (by rw [List.length_map, htl]; exact h')] at hu; cases hu
    rw [hcell i (by omega)]
    rw [← hu, List.getElem?_map, List.getElem?_take_of_lt hi, List.getElem?_eq_getElem (by omega), List.getD_eq_getElem?_getD, List.getElem?_eq_getElem (by omega)]
    rfl
theorem open_nums_fit {k : IntKind} {m : Nat} (ht : P.underlying t = some (.slice e)) (he : P.underlying e = some (.int k)) (hc : P.cellsOf e = 1) (hby : P.bytesOf e = m) (hm1 : 1 ≤ m)
    (h : DataW.trod enc P w base spare held fuel t [v] = some x) (hw : ∀ n ∈ x.1.weights P t, n ≤ reachBytes) :
    ∃ (A : Option Addr) (c : Nat) (zs : List Int), v = .slice A zs.length c ∧ zs.length ≤ c ∧ c ≤ maxLen ∧ Rd w A (zs.map (Value.int k)) ∧ (∀ n ∈ zs, (Lit.int k n).wf = true) ∧ zs.length ≤ 140737488351232 := by
  have hsz : ∀ a len cap, v = .slice (some a) len cap → len ≤ 140737488351232 := fun a len cap hv => by
    rcases open_ints ht he hc h with ⟨h0, _⟩ | ⟨a', len', cap', zs, h0, _, hl, hm, hz, hx, _, _⟩
    · simp only [List.cons.injEq, and_true] at h0
      rw [h0] at hv; cases hv
    · simp only [List.cons.injEq, and_true] at h0
      rw [h0] at hv
      cases hv
      have hlen : len ≤ zs.length := by rw [hz]; split <;> omega
      have := hw ((len + (zs.length - len)) * m) (by
        rw [hx, DataW.weights, ht]
        simp only [hby]
        refine List.mem_cons.2 (.inl ?_)
        congr 1
        simp [lits]
        omega)
      have h2 : len + (zs.length - len) ≤ (len + (zs.length - len)) * m := Nat.le_mul_of_pos_right _ hm1
      unfold reachBytes at this
      omega
  obtain ⟨A, c, zs, rfl, h1, h2, h3, h4⟩ := open_nums ht he hc h
  refine ⟨A, c, zs, rfl, h1, h2, h3, h4, ?_⟩
  cases A with
  | none =>
    rcases Nat.eq_zero_or_pos zs.length with h0 | h0
    · omega
    · obtain ⟨b, off, he, _⟩ := h3.open_ (by simpa using h0)
      cases he
  | some a => exact hsz a _ _ rfl
theorem weights_all {d : DataW H} {l : List (DataW H)} (hd : d ∈ l) {n : Nat} (hn : n ∈ d.weights P e) : n ∈ DataW.weightsAll P e l := by
  induction l with
  | nil => simp at hd
  | cons a l ih =>
    rw [DataW.weightsAll]
    rcases List.mem_cons.1 hd with rfl | hd
    · exact List.mem_append_left _ hn
    · exact List.mem_append_right _ (ih hd)
theorem weights_slice {elems rest : List (DataW H)} {d : DataW H} (ht : P.underlying t = some (.slice e)) (hd : d ∈ elems) {n : Nat} (hn : n ∈ d.weights P e) : n ∈ (DataW.slice elems rest).weights P t := by
  rw [DataW.weights, ht]
  exact List.mem_cons_of_mem _ (List.mem_append_left _ (weights_all hd hn))
theorem open_texts (ht : P.underlying t = some (.slice e)) (he : P.underlying e = some .string) (hc : P.cellsOf e = 1) (h : DataW.trod enc P w base spare held fuel t [v] = some x) (hw : ∀ n ∈ x.1.weights P t, n ≤ reachBytes) :
    ∃ (A : Option Addr) (c : Nat) (ss : List ByteArray), v = .slice A ss.length c ∧ ss.length ≤ c ∧ c ≤ maxLen ∧ Rd w A (Go.Proofs.Ytejkeccoialogaa.strs ss) ∧ ∀ s ∈ ss, s.size ≤ 140737488351232 := by
  rcases open_strings ht he hc h with ⟨h0, _⟩ | ⟨a, len, cap, ss, h0, _, hl, hm, hz, hx, hcell, _⟩
  · simp only [List.cons.injEq, and_true] at h0
    subst h0
    exact ⟨none, 0, [], rfl, by simp, by simp [maxLen], Rd.nil _ _, fun n hn => by simp at hn⟩
  · simp only [List.cons.injEq, and_true] at h0
    subst h0
    have hlen : len ≤ ss.length := by rw [hz]; split <;> omega
    have htl : (ss.take len).length = len := by rw [List.length_take]; omega
    have hsz : ∀ s ∈ ss.take len, s.size ≤ 140737488351232 := by
      intro s hs
      refine hw s.data.toList.length ?_
      rw [hx]
      refine weights_slice ht (d := .lit (.string s.data.toList)) ?_ (by simp [DataW.weights])
      exact List.mem_map.2 ⟨s, hs, rfl⟩
    refine ⟨some a, cap, ss.take len, by rw [htl], by omega, hm, rd_of fun i u hu => ?_, hsz⟩
    have hi : i < len := by
      rcases Nat.lt_or_ge i len with h' | h'
      · exact h'
      · rw [List.getElem?_eq_none (by rw [strs_length, htl]; exact h')] at hu; cases hu
    rw [hcell i (by omega)]
    rw [← hu, Go.Proofs.Ytejkeccoialogaa.strs, List.getElem?_map, List.getElem?_take_of_lt hi, List.getElem?_eq_getElem (by omega), List.getD_eq_getElem?_getD, List.getElem?_eq_getElem (by omega)]
    rfl
end

theorem cells_int : Try.prog.cellsOf 3 = 1 := by kernel_rfl
theorem cells_u8 : Try.prog.cellsOf 5 = 1 := by kernel_rfl
theorem cells_str : Try.prog.cellsOf 9 = 1 := by kernel_rfl
theorem cells_ints : Try.prog.cellsOf 25 = 1 := by kernel_rfl
theorem wf_i64 {n : Int} (h : (Lit.int .i64 n).wf = true) : -9223372036854775808 ≤ n ∧ n ≤ 9223372036854775807 := by
  have e1 : IntKind.i64.min = -9223372036854775808 := rfl
  have e2 : IntKind.i64.max = 9223372036854775807 := rfl
  simpa [Lit.wf, e1, e2] using h
theorem wf_u8 {n : Int} (h : (Lit.int .u8 n).wf = true) : Byt n := by
  have e1 : IntKind.u8.min = 0 := rfl
  have e2 : IntKind.u8.max = 255 := rfl
  unfold Byt
  simpa [Lit.wf, e1, e2] using h

end Go.Proofs.Ytejkeccoialogaa
