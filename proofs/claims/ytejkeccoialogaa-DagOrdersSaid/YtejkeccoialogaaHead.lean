/-
  Headers and certificates on plain lists: which may be, a header's bytes, what bytes are read as, and that the two are inverse to each other. Of no program.
-/
import Derived.Test.YtejkeccoialogaaTexts
namespace Go.Proofs.Ytejkeccoialogaa
open Go.RowKit

/-! ### which may be -/
def risB (l : List Int) : Bool := match l with
  | [] => true
  | x :: r => (match r with | [] => true | y :: _ => decide (x < y)) && risB r
def betB (lo hi : Int) (l : List Int) : Bool := l.all fun x => decide (lo ≤ x ∧ x ≤ hi)
def digsB (l : List Int) (most : Int) : Bool := decide ((l.length : Int) ≤ most) && (betB 1 65536 l && risB l)
/-- a committee? and how many are enough -/
def mayB (n : Int) : Bool := decide (1 ≤ n ∧ n ≤ 16 ∧ n % 3 = 1)
def quoN (n : Int) : Int := 2 * (n / 3) + 1
/-- a header that has bytes -/
def wideB (a r : Int) (B P : List Int) : Bool := decide ((1 ≤ a ∧ a ≤ 16) ∧ (1 ≤ r ∧ r ≤ 1099511627776) ∧ digsB B 8 = true ∧ digsB P 16 = true ∧ (1 < r ∨ P.length = 0))
/-- a header that may be among n nodes -/
def hdrB (a r : Int) (B P : List Int) (n : Int) : Bool := decide (mayB n = true ∧ (1 ≤ a ∧ a ≤ n) ∧ (1 ≤ r ∧ r ≤ 1099511627776) ∧ digsB B 8 = true ∧ digsB P n = true ∧ (if r = 1 then P.length = 0 else quoN n ≤ (P.length : Int)))
/-- a certificate that may be -/
def certB (a r : Int) (B P : List Int) (d : Int) (S : List Int) (n : Int) : Bool := decide (hdrB a r B P n = true ∧ (1 ≤ d ∧ d ≤ 65536) ∧ risB S = true ∧ betB 1 n S = true ∧ quoN n ≤ (S.length : Int))

theorem risB_cons {x y : Int} {r : List Int} : risB (x :: y :: r) = (decide (x < y) && risB (y :: r)) := rfl
/-- rising: each is below the next -/
theorem risB_iff : ∀ {l : List Int}, risB l = true ↔ ∀ (i : Nat) (x y : Int), l[i]? = some x → l[i + 1]? = some y → x < y
  | [] => ⟨fun _ i x y h => by simp at h, fun _ => rfl⟩
  | [x] => ⟨fun _ i a b h h' => by simp at h', fun _ => rfl⟩
  | x :: y :: r => by
    have ih := risB_iff (l := y :: r)
    rw [risB_cons, Bool.and_eq_true, decide_eq_true_eq, ih]
    constructor
    · rintro ⟨h0, h1⟩ i a b ha hb
      cases i with
      | zero => simp at ha hb; subst ha hb; exact h0
      | succ i => exact h1 i a b (by simpa using ha) (by simpa using hb)
    · intro h
      exact ⟨h 0 x y rfl rfl, fun i a b ha hb => h (i + 1) a b (by simpa using ha) (by simpa using hb)⟩
theorem betB_iff {lo hi : Int} {l : List Int} : betB lo hi l = true ↔ ∀ x ∈ l, lo ≤ x ∧ x ≤ hi := by
  unfold betB
  rw [List.all_eq_true]
  constructor
  · intro h x hx; simpa using h x hx
  · intro h x hx; simpa using h x hx
theorem digsB_iff {l : List Int} {most : Int} : digsB l most = true ↔ (l.length : Int) ≤ most ∧ (∀ x ∈ l, 1 ≤ x ∧ x ≤ 65536) ∧ risB l = true := by
  unfold digsB
  rw [Bool.and_eq_true, Bool.and_eq_true, decide_eq_true_eq, betB_iff]
theorem wide_all {a r : Int} {B P : List Int} (h : wideB a r B P = true) : (1 ≤ a ∧ a ≤ 16) ∧ (1 ≤ r ∧ r ≤ 1099511627776) ∧ ((B.length : Int) ≤ 8 ∧ ∀ x ∈ B, 1 ≤ x ∧ x ≤ 65536) ∧ ((P.length : Int) ≤ 16 ∧ ∀ x ∈ P, 1 ≤ x ∧ x ≤ 65536) := by
  obtain ⟨h1, h2, h3, h4, _⟩ : (1 ≤ a ∧ a ≤ 16) ∧ (1 ≤ r ∧ r ≤ 1099511627776) ∧ digsB B 8 = true ∧ digsB P 16 = true ∧ (1 < r ∨ P.length = 0) := by simpa only [wideB, decide_eq_true_eq] using h
  obtain ⟨b1, b2, _⟩ := digsB_iff.1 h3
  obtain ⟨p1, p2, _⟩ := digsB_iff.1 h4
  exact ⟨h1, h2, ⟨b1, b2⟩, p1, p2⟩

/-! ### numbers as one text -/
def toN (l : List Int) : List Nat := l.map Int.toNat
theorem toN_length (l : List Int) : (toN l).length = l.length := by simp [toN]
theorem nats_toN {l : List Int} (h : ∀ x ∈ l, 0 ≤ x) : nats (toN l) = l := by
  unfold nats toN
  rw [List.map_map]
  conv => rhs; rw [← List.map_id l]
  exact List.map_congr_left fun x hx => by simp only [Function.comp, id]; exact Int.toNat_of_nonneg (h x hx)
theorem toN_nats (l : List Nat) : toN (nats l) = l := by
  unfold nats toN
  rw [List.map_map]
  conv => rhs; rw [← List.map_id l]
  exact List.map_congr_left fun x _ => by simp only [Function.comp, id]; exact Int.toNat_natCast x
theorem toN_small {l : List Int} (h : ∀ x ∈ l, 1 ≤ x ∧ x ≤ 65536) : ∀ m ∈ toN l, m < 9223372036854775808 := fun m hm => by
  obtain ⟨x, hx, rfl⟩ := List.mem_map.1 hm
  have := h x hx
  omega
def numsT (l : List Int) : ByteArray := strOfNums (putNums (toN l))
theorem byt_numsT (l : List Int) : byt (numsT l) = putNums (toN l) := byt_of (putNums_byts _)
theorem numsT_size (l : List Int) : (numsT l).size = (putNums (toN l)).length := by rw [← byt_length, byt_numsT]
theorem putNums_len {l : List Nat} (h : ∀ m ∈ l, m < 9223372036854775808) (hl : l.length < 9223372036854775808) : (putNums l).length ≤ 9 + 9 * l.length := by
  have h1 := vnum_len_le l.length hl
  have h2 : (vnums l).length ≤ 9 * l.length := by
    clear hl h1
    induction l with
    | nil => simp [vnums]
    | cons m l ih =>
      have h3 := vnum_len_le m (h m (by simp))
      have h4 := ih fun x hx => h x (by simp [hx])
      simp only [vnums, List.flatMap_cons, List.length_append, List.length_cons] at h4 ⊢
      omega
  rw [putNums, List.length_append]
  omega
theorem numsT_small {l : List Int} (h : ∀ x ∈ l, 1 ≤ x ∧ x ≤ 65536) (hl : (l.length : Int) ≤ 16) : (numsT l).size ≤ 153 := by
  rw [numsT_size]
  have := putNums_len (toN_small h) (by rw [toN_length]; omega)
  rw [toN_length] at this
  omega

/-! ### a header as texts, and as bytes -/
def headW : ByteArray := ⟨#[104, 101, 97, 100, 101, 114]⟩
def headTexts (a r : Int) (B P : List Int) : List ByteArray := [headW, numT a, numT r, numsT B, numsT P]
def headBytes (a r : Int) (B P : List Int) : List Int := putPuts ((headTexts a r B P).map byt)
/-- numbers that a text is, or none -/
def numsO (s : ByteArray) : Option (List Int) := (getNums (byt s)).map nats
theorem numsO_put {l : List Int} (h : ∀ x ∈ l, 1 ≤ x ∧ x ≤ 65536) (hl : (l.length : Int) ≤ 16) : numsO (numsT l) = some l := by
  unfold numsO
  rw [byt_numsT, getNums_put (toN_small h) (by rw [toN_length]; omega), Option.map_some, nats_toN fun x hx => by have := h x hx; omega]
theorem numsO_get {s : ByteArray} {l : List Int} (h : numsO s = some l) : s = numsT l := by
  unfold numsO at h
  cases hg : getNums (byt s) with
  | none => rw [hg] at h; simp at h
  | some m =>
    rw [hg, Option.map_some, Option.some.injEq] at h
    subst h
    exact byt_inj (by rw [byt_numsT, toN_nats]; exact getNums_get (byt_byts s) hg)

/-- the header that texts are, if it is one that has bytes -/
def textsH : List ByteArray → Option (Int × Int × List Int × List Int)
  | [w, x, y, b, p] =>
    if w = headW ∧ (wholeN x).isSome ∧ (wholeN y).isSome ∧ (numsO b).isSome ∧ (numsO p).isSome ∧ wideB ((wholeN x).getD 0 : Nat) ((wholeN y).getD 0 : Nat) ((numsO b).getD []) ((numsO p).getD []) = true
    then some (((wholeN x).getD 0 : Nat), ((wholeN y).getD 0 : Nat), (numsO b).getD [], (numsO p).getD []) else none
  | _ => none
theorem textsH_five (w x y b p : ByteArray) : textsH [w, x, y, b, p] =
    if w = headW ∧ (wholeN x).isSome ∧ (wholeN y).isSome ∧ (numsO b).isSome ∧ (numsO p).isSome ∧ wideB ((wholeN x).getD 0 : Nat) ((wholeN y).getD 0 : Nat) ((numsO b).getD []) ((numsO p).getD []) = true
    then some ((((wholeN x).getD 0 : Nat) : Int), (((wholeN y).getD 0 : Nat) : Int), (numsO b).getD [], (numsO p).getD []) else none := rfl
def parseH (x : List Int) : Option (Int × Int × List Int × List Int) := (getPuts x).bind fun l => textsH (l.map strOfNums)

section
variable {a r a' r' : Int} {B P B' P' : List Int}
theorem textsH_put (h : wideB a r B P = true) : textsH (headTexts a r B P) = some (a, r, B, P) := by
  obtain ⟨⟨a0, a1⟩, ⟨r0, r1⟩, ⟨b0, b1⟩, p0, p1⟩ := wide_all h
  show textsH [headW, numT a, numT r, numsT B, numsT P] = _
  rw [textsH_five, whole_num (by omega) (by omega), whole_num (by omega) (by omega), numsO_put b1 (by omega), numsO_put p1 p0]
  simp only [Option.getD_some, Option.isSome_some]
  rw [Int.toNat_of_nonneg (by omega), Int.toNat_of_nonneg (by omega), if_pos (by exact ⟨trivial, trivial, trivial, trivial, trivial, h⟩)]
theorem textsH_get {l : List ByteArray} (h : textsH l = some (a, r, B, P)) : wideB a r B P = true ∧ l = headTexts a r B P := by
  match l, h with
  | [w, x, y, b, p], h =>
    rw [textsH_five] at h
    split at h
    · rename_i hc
      obtain ⟨h1, h4, h5, h6, h7, h8⟩ := hc
      simp only [Option.some.injEq, Prod.mk.injEq] at h
      obtain ⟨e1, e2, e3, e4⟩ := h
      rw [Option.isSome_iff_exists] at h4 h5 h6 h7
      obtain ⟨m, hm⟩ := h4
      obtain ⟨m', hm'⟩ := h5
      obtain ⟨lb, hlb⟩ := h6
      obtain ⟨lp, hlp⟩ := h7
      rw [e1, e2, e3, e4] at h8
      rw [hm] at e1
      rw [hm'] at e2
      rw [hlb] at e3
      rw [hlp] at e4
      simp only [Option.getD_some] at e1 e2 e3 e4
      refine ⟨h8, ?_⟩
      rw [headTexts, h1, (num_whole hm).1, (num_whole hm').1, numsO_get hlb, numsO_get hlp, e1, e2, e3, e4]
    · simp at h
theorem headTexts_small (h : wideB a r B P = true) : ∀ s ∈ headTexts a r B P, s.size ≤ 153 := by
  obtain ⟨⟨a0, a1⟩, ⟨r0, r1⟩, ⟨b0, b1⟩, p0, p1⟩ := wide_all h
  have hn : ∀ m : Int, 0 ≤ m → m < 9223372036854775808 → (numT m).size ≤ 153 := fun m h0 h1 => by
    rw [numT_size]
    have := vnum_len_le m.toNat (by omega)
    omega
  intro s hs
  simp only [headTexts, List.mem_cons, List.not_mem_nil, or_false] at hs
  rcases hs with rfl | rfl | rfl | rfl | rfl
  · decide
  · exact hn _ (by omega) (by omega)
  · exact hn _ (by omega) (by omega)
  · exact numsT_small b1 (by omega)
  · exact numsT_small p1 p0
theorem head_sizes (h : wideB a r B P = true) : ∀ s ∈ (headTexts a r B P).map byt, s.length < 9223372036854775808 := fun s hs => by
  obtain ⟨t, ht, rfl⟩ := List.mem_map.1 hs
  rw [byt_length]
  have := headTexts_small h t ht
  omega
theorem headTexts_length (a r : Int) (B P : List Int) : (headTexts a r B P).length = 5 := rfl
theorem vputs_len5 {k : Nat} (L : List ByteArray) (hk : k < 9223372036854775808) (h : ∀ s ∈ L, s.size ≤ k) : (vputs (L.map byt)).length ≤ (9 + k) * L.length := by
  induction L with
  | nil => simp [vputs]
  | cons s L ih =>
    have h0 := h s (by simp)
    have h1 := vnum_len_le s.size (by omega)
    have h2 := ih fun x hx => h x (by simp [hx])
    rw [List.length_cons, Nat.mul_succ]
    simp only [vputs, List.map_cons, List.flatMap_cons, List.length_append, byt_length] at h2 ⊢
    omega
theorem head_small (h : wideB a r B P = true) : (headBytes a r B P).length ≤ 1000 := by
  have h1 := vputs_len5 (k := 153) (headTexts a r B P) (by omega) (headTexts_small h)
  have h2 := headTexts_length a r B P
  rw [h2] at h1
  have h3 := vnum_len_le ((headTexts a r B P).map byt).length (by rw [List.length_map, h2]; omega)
  rw [headBytes, putPuts, List.length_append]
  omega
theorem head_fit (h : wideB a r B P = true) : (putPuts ((headTexts a r B P).map byt)).length ≤ 1048576 := by
  have := head_small h
  rw [headBytes] at this
  omega
theorem headBytes_byts (a r : Int) (B P : List Int) : Byts (headBytes a r B P) := putPuts_byts _ fun s hs => by
  obtain ⟨t, _, rfl⟩ := List.mem_map.1 hs
  exact byt_byts t
theorem parseH_put (h : wideB a r B P = true) : parseH (headBytes a r B P) = some (a, r, B, P) := by
  unfold parseH headBytes
  rw [getPuts_put (head_sizes h) (by rw [List.length_map, headTexts_length]; omega), Option.bind_some, map_strs, textsH_put h]
theorem parseH_get {x : List Int} (hx : Byts x) (h : parseH x = some (a, r, B, P)) : wideB a r B P = true ∧ x = headBytes a r B P := by
  unfold parseH at h
  cases hg : getPuts x with
  | none => rw [hg] at h; simp at h
  | some l =>
    rw [hg, Option.bind_some] at h
    obtain ⟨h1, h2⟩ := textsH_get h
    have h3 := getPuts_get hx hg
    refine ⟨h1, ?_⟩
    rw [headBytes, ← h2, h3]
    congr 1
    have hall : ∀ s ∈ l, Byts s := getPuts_byts hx hg
    rw [List.map_map]
    conv => lhs; rw [← List.map_id l]
    exact List.map_congr_left fun s hs => by simp only [Function.comp, id]; exact (byt_of (hall s hs)).symm
theorem parseH_more (h : wideB a r B P = true) {t : List Int} (ht : t ≠ []) : parseH (headBytes a r B P ++ t) = none := by
  unfold parseH headBytes
  rw [getPuts_more (head_sizes h) (by rw [List.length_map, headTexts_length]; omega) ht]
  rfl
theorem parseH_short (h : wideB a r B P = true) {k : Nat} (hk : k < (headBytes a r B P).length) : parseH ((headBytes a r B P).take k) = none := by
  unfold parseH headBytes at *
  rw [getPuts_short (fun s hs => by obtain ⟨t, _, rfl⟩ := List.mem_map.1 hs; exact byt_byts t) (head_sizes h) (by rw [List.length_map, headTexts_length]; omega) hk]
  rfl
/-- are two headers the same? -/
def eqHdr (a r : Int) (B P : List Int) (a' r' : Int) (B' P' : List Int) : Bool := decide (a = a' ∧ r = r' ∧ B = B' ∧ P = P')
theorem eqHdr_same (a r : Int) (B P : List Int) : eqHdr a r B P a r B P = true := by simp [eqHdr]
theorem head_inj (h : wideB a r B P = true) (h' : wideB a' r' B' P' = true) (e : headBytes a r B P = headBytes a' r' B' P') : a = a' ∧ r = r' ∧ B = B' ∧ P = P' := by
  have := parseH_put h
  rw [e, parseH_put h', Option.some.injEq, Prod.mk.injEq, Prod.mk.injEq, Prod.mk.injEq] at this
  exact ⟨this.1.symm, this.2.1.symm, this.2.2.1.symm, this.2.2.2.symm⟩
theorem eq_heads (h : wideB a r B P = true) (h' : wideB a' r' B' P' = true) : decide (headBytes a r B P = headBytes a' r' B' P') = eqHdr a r B P a' r' B' P' := by
  rw [eqHdr, decide_eq_decide]
  constructor
  · exact fun e => head_inj h h' e
  · rintro ⟨rfl, rfl, rfl, rfl⟩; rfl
end

end Go.Proofs.Ytejkeccoialogaa
