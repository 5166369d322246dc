/-
  Batches as bytes, on plain lists: what a batch's texts are, what texts are read as, and that the two are inverse to each other. Of no program.
-/
import Derived.Test.YtkkamcdilpcehaaTx
import Derived.Test.YtkkamcdilpcehaaGets
namespace Go.Proofs.Ytkkamcdilpcehaa
open Go.RowKit

def idB (n : Int) : Bool := decide (1 ≤ n ∧ n ≤ 1099511627776)
def txB (t : TxD) : Bool := decide (idB t.s = true ∧ idB t.q = true ∧ 1 ≤ t.k.size ∧ t.k.size ≤ 16 ∧ t.v.size ≤ 32)
def batB (a n : Int) (L : List TxD) : Bool := decide ((1 ≤ a ∧ a ≤ 16) ∧ idB n = true ∧ 1 ≤ L.length ∧ L.length ≤ 8 ∧ L.all txB = true)

/-- the text of a number's bytes -/
def numT (n : Int) : ByteArray := strOfNums (vnum n.toNat)
/-- the number that a text is, if it is one -/
def wholeN (s : ByteArray) : Option Nat := (gn 0 0 (byt s)).bind fun p => if p.2 = s.size then some p.1 else none
theorem byt_numT (n : Int) : byt (numT n) = vnum n.toNat := byt_of (vnum_byts _)
theorem numT_size (n : Int) : (numT n).size = (vnum n.toNat).length := by rw [← byt_length, byt_numT]
theorem whole_num {n : Int} (h0 : 0 ≤ n) (h : n < 9223372036854775808) : wholeN (numT n) = some n.toNat := by
  have := get_put (n := n.toNat) (by omega) []
  rw [List.append_nil] at this
  unfold wholeN
  rw [byt_numT, this, numT_size]
  simp
theorem num_whole {s : ByteArray} {m : Nat} (h : wholeN s = some m) : s = numT m ∧ m < 9223372036854775808 := by
  unfold wholeN at h
  cases hg : gn 0 0 (byt s) with
  | none => rw [hg] at h; simp at h
  | some p =>
    obtain ⟨m', k⟩ := p
    rw [hg] at h
    simp only [Option.bind_some] at h
    split at h
    · rename_i hk
      simp only [Option.some.injEq] at h
      subst h
      obtain ⟨r, h1, h2, h3, _⟩ := put_get (byt_byts s) hg
      have hl := congrArg List.length h1
      rw [byt_length, List.length_append, ← h2] at hl
      have hr : r = [] := List.eq_nil_of_length_eq_zero (by omega)
      subst hr
      rw [List.append_nil] at h1
      refine ⟨byt_inj (by rw [byt_numT, Int.toNat_natCast]; exact h1), h3⟩
    · simp at h
theorem numT_inj {m n : Int} (h0 : 0 ≤ m) (h1 : m < 9223372036854775808) (h2 : 0 ≤ n) (h3 : n < 9223372036854775808) (h : numT m = numT n) : m = n := by
  have a := whole_num h0 h1
  rw [h, whole_num h2 h3, Option.some.injEq] at a
  omega

/-- a transaction's texts, and a batch's -/
def TxD.texts (t : TxD) : List ByteArray := [numT t.s, numT t.q, t.k, t.v]
def batchW : ByteArray := ⟨#[98, 97, 116, 99, 104]⟩
def batTexts (a n : Int) (L : List TxD) : List ByteArray := [batchW, numT a, numT n] ++ L.flatMap TxD.texts
def batBytes (a n : Int) (L : List TxD) : List Int := putPuts ((batTexts a n L).map byt)
theorem texts_length (L : List TxD) : (L.flatMap TxD.texts).length = 4 * L.length := by
  induction L with
  | nil => rfl
  | cons t L ih => rw [List.flatMap_cons, List.length_append, ih]; simp [TxD.texts]; omega
theorem batTexts_length (a n : Int) (L : List TxD) : (batTexts a n L).length = 3 + 4 * L.length := by
  rw [batTexts, List.length_append, texts_length]; rfl

/-- the transactions that texts are, four by four; and whether all their numbers are numbers -/
def rdT : List ByteArray → List TxD × Bool
  | s :: q :: k :: v :: r => (⟨((wholeN s).getD 0 : Nat), ((wholeN q).getD 0 : Nat), k, v⟩ :: (rdT r).1, ((wholeN s).isSome && (wholeN q).isSome) && (rdT r).2)
  | _ => ([], true)
theorem rdT_nil : rdT [] = ([], true) := rfl
theorem rdT_four (s q k v : ByteArray) (r : List ByteArray) : rdT (s :: q :: k :: v :: r) = (⟨((wholeN s).getD 0 : Nat), ((wholeN q).getD 0 : Nat), k, v⟩ :: (rdT r).1, ((wholeN s).isSome && (wholeN q).isSome) && (rdT r).2) := rfl
theorem four {r : List ByteArray} {j : Nat} (h : r.length = 4 * (j + 1)) : ∃ s q k v r', r = s :: q :: k :: v :: r' ∧ r'.length = 4 * j := by
  match r, h with
  | s :: q :: k :: v :: r', h => exact ⟨s, q, k, v, r', rfl, by simp at h; omega⟩
theorem rdT_snoc (s q k v : ByteArray) : ∀ (j : Nat) (r : List ByteArray), r.length = 4 * j →
    rdT (r ++ [s, q, k, v]) = ((rdT r).1 ++ [⟨((wholeN s).getD 0 : Nat), ((wholeN q).getD 0 : Nat), k, v⟩], (rdT r).2 && ((wholeN s).isSome && (wholeN q).isSome))
  | 0, r, h => by
    have : r = [] := List.eq_nil_of_length_eq_zero (by omega)
    subst this
    simp [rdT]
  | j + 1, r, h => by
    obtain ⟨s', q', k', v', r', rfl, hl⟩ := four h
    have ih := rdT_snoc s q k v j r' hl
    show rdT (s' :: q' :: k' :: v' :: (r' ++ [s, q, k, v])) = _
    rw [rdT_four, ih, rdT_four]
    simp [Bool.and_assoc]
theorem rdT_texts : ∀ (L : List TxD), (∀ t ∈ L, (0 ≤ t.s ∧ t.s < 9223372036854775808) ∧ 0 ≤ t.q ∧ t.q < 9223372036854775808) → rdT (L.flatMap TxD.texts) = (L, true)
  | [], _ => rfl
  | t :: L, h => by
    obtain ⟨⟨h0, h1⟩, h2, h3⟩ := h t (by simp)
    have ih := rdT_texts L fun x hx => h x (by simp [hx])
    rw [List.flatMap_cons]
    show rdT (numT t.s :: numT t.q :: t.k :: t.v :: L.flatMap TxD.texts) = _
    rw [rdT_four, ih, whole_num h0 h1, whole_num h2 h3]
    simp only [Option.getD_some, Option.isSome_some, Bool.and_true, Prod.mk.injEq, and_true, List.cons.injEq]
    rw [Int.toNat_of_nonneg h0, Int.toNat_of_nonneg h2]
theorem texts_rdT : ∀ (j : Nat) (r : List ByteArray) (L : List TxD), r.length = 4 * j → rdT r = (L, true) → r = L.flatMap TxD.texts
  | 0, r, L, h, e => by
    have : r = [] := List.eq_nil_of_length_eq_zero (by omega)
    subst this
    rw [rdT_nil, Prod.mk.injEq] at e
    rw [← e.1]; rfl
  | j + 1, r, L, h, e => by
    obtain ⟨s, q, k, v, r', rfl, hl⟩ := four h
    rw [rdT_four, Prod.mk.injEq] at e
    obtain ⟨e1, e2⟩ := e
    rw [Bool.and_eq_true, Bool.and_eq_true, Option.isSome_iff_exists, Option.isSome_iff_exists] at e2
    obtain ⟨⟨⟨m, hm⟩, ⟨m', hm'⟩⟩, e3⟩ := e2
    have ih := texts_rdT j r' (rdT r').1 hl (by rw [← e3])
    obtain ⟨g1, _⟩ := num_whole hm
    obtain ⟨g2, _⟩ := num_whole hm'
    rw [hm, hm'] at e1
    rw [← e1, List.flatMap_cons, ← ih]
    simp only [TxD.texts, Option.getD_some, ← g1, ← g2]
    rfl
theorem rdT_length : ∀ (j : Nat) (r : List ByteArray), r.length = 4 * j → (rdT r).1.length = j
  | 0, r, h => by
    have : r = [] := List.eq_nil_of_length_eq_zero (by omega)
    subst this; rfl
  | j + 1, r, h => by
    obtain ⟨s, q, k, v, r', rfl, hl⟩ := four h
    rw [rdT_four]
    simp [rdT_length j r' hl]

/-- the batch that texts are, if it is one that may be -/
def textsB : List ByteArray → Option (Int × Int × List TxD)
  | w :: x :: y :: r =>
    if w = batchW ∧ 4 ≤ r.length ∧ r.length % 4 = 0 ∧ (wholeN x).isSome ∧ (wholeN y).isSome ∧ (rdT r).2 = true ∧ batB ((wholeN x).getD 0 : Nat) ((wholeN y).getD 0 : Nat) (rdT r).1 = true
    then some (((wholeN x).getD 0 : Nat), ((wholeN y).getD 0 : Nat), (rdT r).1) else none
  | _ => none
theorem textsB_three (w x y : ByteArray) (r : List ByteArray) : textsB (w :: x :: y :: r) =
    if w = batchW ∧ 4 ≤ r.length ∧ r.length % 4 = 0 ∧ (wholeN x).isSome ∧ (wholeN y).isSome ∧ (rdT r).2 = true ∧ batB ((wholeN x).getD 0 : Nat) ((wholeN y).getD 0 : Nat) (rdT r).1 = true
    then some ((((wholeN x).getD 0 : Nat) : Int), (((wholeN y).getD 0 : Nat) : Int), (rdT r).1) else none := rfl
def parseB (x : List Int) : Option (Int × Int × List TxD) := (getPuts x).bind fun l => textsB (l.map strOfNums)

theorem idB_lt {n : Int} (h : idB n = true) : 0 ≤ n ∧ n < 9223372036854775808 := by
  have : 1 ≤ n ∧ n ≤ 1099511627776 := by simpa [idB] using h
  omega
theorem bat_all {a n : Int} {L : List TxD} (h : batB a n L = true) : (0 ≤ a ∧ a < 9223372036854775808) ∧ (0 ≤ n ∧ n < 9223372036854775808) ∧ (1 ≤ L.length ∧ L.length ≤ 8) ∧
    ∀ t ∈ L, ((0 ≤ t.s ∧ t.s < 9223372036854775808) ∧ 0 ≤ t.q ∧ t.q < 9223372036854775808) ∧ t.k.size ≤ 16 ∧ t.v.size ≤ 32 := by
  obtain ⟨⟨h1, h2⟩, h3, h4, h5, h6⟩ : (1 ≤ a ∧ a ≤ 16) ∧ idB n = true ∧ 1 ≤ L.length ∧ L.length ≤ 8 ∧ L.all txB = true := by simpa only [batB, decide_eq_true_eq] using h
  refine ⟨by omega, idB_lt h3, ⟨h4, h5⟩, fun t ht => ?_⟩
  obtain ⟨k1, k2, k3, k4, k5⟩ : idB t.s = true ∧ idB t.q = true ∧ 1 ≤ t.k.size ∧ t.k.size ≤ 16 ∧ t.v.size ≤ 32 := by
    have := List.all_eq_true.1 h6 t ht
    simpa only [txB, decide_eq_true_eq] using this
  exact ⟨⟨idB_lt k1, idB_lt k2⟩, k4, k5⟩
theorem textsB_put {a n : Int} {L : List TxD} (h : batB a n L = true) : textsB (batTexts a n L) = some (a, n, L) := by
  obtain ⟨⟨a0, a1⟩, ⟨n0, n1⟩, ⟨l0, _⟩, ht⟩ := bat_all h
  have hr := rdT_texts L fun t h => (ht t h).1
  have hl := texts_length L
  show textsB (batchW :: numT a :: numT n :: L.flatMap TxD.texts) = _
  rw [textsB_three, hr, whole_num a0 a1, whole_num n0 n1]
  simp only [Option.getD_some, Option.isSome_some]
  rw [Int.toNat_of_nonneg a0, Int.toNat_of_nonneg n0, if_pos (by exact ⟨trivial, by omega, by omega, trivial, trivial, trivial, h⟩)]
theorem textsB_get {l : List ByteArray} {a n : Int} {L : List TxD} (h : textsB l = some (a, n, L)) : batB a n L = true ∧ l = batTexts a n L := by
  match l, h with
  | w :: x :: y :: r, h =>
    rw [textsB_three] at h
    split at h
    · rename_i hc
      obtain ⟨h1, h2, h3, h4, h5, h6, h7⟩ := hc
      simp only [Option.some.injEq, Prod.mk.injEq] at h
      obtain ⟨e1, e2, e3⟩ := h
      rw [Option.isSome_iff_exists] at h4 h5
      obtain ⟨m, hm⟩ := h4
      obtain ⟨m', hm'⟩ := h5
      rw [e1, e2, e3] at h7
      rw [hm] at e1
      rw [hm'] at e2
      simp only [Option.getD_some] at e1 e2
      have hr := texts_rdT (r.length / 4) r L (by omega) (by rw [← e3, ← h6])
      refine ⟨h7, ?_⟩
      rw [batTexts, ← hr, h1, (num_whole hm).1, (num_whole hm').1, e1, e2]
      rfl
    · simp at h
theorem size_le (a n : Int) (L : List TxD) (h : batB a n L = true) : ∀ s ∈ (batTexts a n L).map byt, s.length < 9223372036854775808 := by
  obtain ⟨⟨a0, a1⟩, ⟨n0, n1⟩, _, ht⟩ := bat_all h
  have hn : ∀ m : Int, 0 ≤ m → m < 9223372036854775808 → (byt (numT m)).length < 9223372036854775808 := fun m h0 h1 => by
    rw [byt_numT]
    have := vnum_len_le m.toNat (by omega)
    omega
  intro s hs
  obtain ⟨t, ht', rfl⟩ := List.mem_map.1 hs
  rw [batTexts] at ht'
  rcases List.mem_append.1 ht' with h' | h'
  · simp only [List.mem_cons, List.not_mem_nil, or_false] at h'
    rcases h' with rfl | rfl | rfl
    · decide
    · exact hn _ a0 a1
    · exact hn _ n0 n1
  · obtain ⟨t', hm, hx⟩ := List.mem_flatMap.1 h'
    obtain ⟨⟨⟨s0, s1⟩, q0, q1⟩, k1, v1⟩ := ht t' hm
    simp only [TxD.texts, List.mem_cons, List.not_mem_nil, or_false] at hx
    rcases hx with rfl | rfl | rfl | rfl
    · exact hn _ s0 s1
    · exact hn _ q0 q1
    · rw [byt_length]; omega
    · rw [byt_length]; omega
theorem getPuts_byts {x : List Int} {l : List (List Int)} (hx : Byts x) (h : getPuts x = some l) : ∀ s ∈ l, Byts s := fun s hs c hc => by
  refine hx c ?_
  rw [getPuts_get hx h, putPuts]
  refine List.mem_append_right _ (List.mem_flatMap.2 ⟨s, hs, List.mem_append_right _ hc⟩)
theorem map_strs (l : List ByteArray) : (l.map byt).map strOfNums = l := by
  rw [List.map_map]
  conv => rhs; rw [← List.map_id l]
  exact List.map_congr_left fun t _ => by simp only [Function.comp, id]; exact strOfNums_byt t
theorem parse_put {a n : Int} {L : List TxD} (h : batB a n L = true) : parseB (batBytes a n L) = some (a, n, L) := by
  unfold parseB batBytes
  have := bat_all h
  rw [getPuts_put (size_le a n L h) (by rw [List.length_map, batTexts_length]; omega), Option.bind_some, map_strs, textsB_put h]
theorem parse_get {x : List Int} {a n : Int} {L : List TxD} (hx : Byts x) (h : parseB x = some (a, n, L)) : batB a n L = true ∧ x = batBytes a n L := by
  unfold parseB at h
  cases hg : getPuts x with
  | none => rw [hg] at h; simp at h
  | some l =>
    rw [hg, Option.bind_some] at h
    obtain ⟨h1, h2⟩ := textsB_get h
    have h3 := getPuts_get hx hg
    refine ⟨h1, ?_⟩
    rw [batBytes, ← h2, h3]
    congr 1
    have hall : ∀ s ∈ l, Byts s := getPuts_byts hx hg
    rw [List.map_map]
    conv => lhs; rw [← List.map_id l]
    exact List.map_congr_left fun s hs => by simp only [Function.comp, id]; exact (byt_of (hall s hs)).symm
theorem parse_more {a n : Int} {L : List TxD} (h : batB a n L = true) {r : List Int} (hr : r ≠ []) : parseB (batBytes a n L ++ r) = none := by
  unfold parseB batBytes
  have := bat_all h
  rw [getPuts_more (size_le a n L h) (by rw [List.length_map, batTexts_length]; omega) hr]
  rfl
theorem batBytes_byts (a n : Int) (L : List TxD) : Byts (batBytes a n L) := putPuts_byts _ fun s hs => by
  obtain ⟨t, _, rfl⟩ := List.mem_map.1 hs
  exact byt_byts t
theorem parse_short {a n : Int} {L : List TxD} (h : batB a n L = true) {k : Nat} (hk : k < (batBytes a n L).length) : parseB ((batBytes a n L).take k) = none := by
  unfold parseB batBytes at *
  have := bat_all h
  rw [getPuts_short (fun s hs => by obtain ⟨t, _, rfl⟩ := List.mem_map.1 hs; exact byt_byts t) (size_le a n L h) (by rw [List.length_map, batTexts_length]; omega) hk]
  rfl
theorem bytes_inj {a n a' n' : Int} {L L' : List TxD} (h : batB a n L = true) (h' : batB a' n' L' = true) (e : batBytes a n L = batBytes a' n' L') : a = a' ∧ n = n' ∧ L = L' := by
  have := parse_put h
  rw [e, parse_put h', Option.some.injEq, Prod.mk.injEq, Prod.mk.injEq] at this
  exact ⟨this.1.symm, this.2.1.symm, this.2.2.symm⟩

end Go.Proofs.Ytkkamcdilpcehaa
