/-
  The cells of what is asked at one index, in every later world.
-/
import Derived.Test.YtggohjdgenjijaaCommon
namespace Go.Proofs.Ytggohjdgenjijaa
open Go.RowKit

theorem AskAt.all {w : World} {a : Option Addr} {i : Nat} (h : AskAt w a i) : ∃ (b off : Nat) (q : Asked) (nL nS nB : Nat), a = some ⟨b, off, none⟩ ∧ q.L.length = nL ∧ q.S.length = nS ∧ q.B.length = nB ∧ ∀ wX, Below w.heap.size w wX → AskOk wX q ∧
    wX.cell? ⟨b, off + i * 4, none⟩ = some (.int .i64 q.N) ∧ wX.cell? ⟨b, off + i * 4 + 1, none⟩ = some (.slice q.AL nL q.cL) ∧
    wX.cell? ⟨b, off + i * 4 + 2, none⟩ = some (.slice q.AN nS q.cN) ∧ wX.cell? ⟨b, off + i * 4 + 3, none⟩ = some (.slice q.AB nB q.cB) := by
  obtain ⟨b, off, q, rfl, hlt, ok, c0, c1, c2, c3⟩ := h
  exact ⟨b, off, q, _, _, _, rfl, rfl, rfl, rfl, fun wX hb => ⟨ok.below hb, (hb.cell (p := ⟨b, _, none⟩) hlt).trans c0, (hb.cell (p := ⟨b, _, none⟩) hlt).trans c1, (hb.cell (p := ⟨b, _, none⟩) hlt).trans c2, (hb.cell (p := ⟨b, _, none⟩) hlt).trans c3⟩⟩

theorem heavy_nums (q : Asked) (nL nS nB : Nat) (hL : q.L.length = nL) (hS : q.S.length = nS) (hB : q.B.length = nB) (w : World) (ok : AskOk w q) :
    Calls Try.prog 9 #[.agg #[.int .i64 q.N, .slice q.AL nL q.cL, .slice q.AN nS q.cN, .slice q.AB nB q.cB]] w (Heavy q w) := by
  subst hL hS hB
  exact heavy_any q w ok

theorem vnums_len {L : List Nat} (h : ∀ m ∈ L, m < 9223372036854775808) : (vnums L).length ≤ 9 * L.length := by
  induction L with
  | nil => simp [vnums]
  | cons m L ih =>
    have h1 := vnum_len_le m (h m (by simp))
    have h2 := ih fun x hx => h x (by simp [hx])
    simp only [vnums, List.flatMap_cons, List.length_append, List.length_cons] at h2 ⊢
    omega
theorem putNums_len {L : List Nat} (h : ∀ m ∈ L, m < 9223372036854775808) (hl : L.length ≤ 500) : (putNums L).length ≤ 1048576 := by
  have h1 := vnums_len h
  have h2 := vnum_len_le L.length (by omega)
  simp only [putNums, List.length_append]
  omega
theorem vputs_len (L : List ByteArray) (h : ∀ s ∈ L, s.size < 9223372036854775808) : (vputs (L.map byt)).length ≤ 9 * L.length + totT L L.length := by
  induction L with
  | nil => simp [vputs]
  | cons s L ih =>
    have h1 := vnum_len_le s.size (h s (by simp))
    have h2 := ih fun x hx => h x (by simp [hx])
    have h3 : totT (s :: L) (s :: L).length = s.size + totT L L.length := by simp [totT]
    rw [h3]
    simp only [vputs, List.map_cons, List.flatMap_cons, List.length_append, List.length_cons, byt_length] at h2 ⊢
    omega
theorem text_le {L : List ByteArray} {s : ByteArray} (h : s ∈ L) : s.size ≤ totT L L.length := by
  induction L with
  | nil => simp at h
  | cons x L ih =>
    have h3 : totT (x :: L) (x :: L).length = x.size + totT L L.length := by simp [totT]
    rw [h3]
    rcases List.mem_cons.1 h with rfl | h
    · omega
    · have := ih h; omega
theorem putPuts_len {L : List ByteArray} (h : L.length + totT L L.length ≤ 8000) : (putPuts (L.map byt)).length ≤ 1048576 := by
  have h1 := vputs_len L (fun s hs => by have := text_le hs; omega)
  have h2 := vnum_len_le L.length (by omega)
  rw [putPuts_byt, List.length_append]
  omega

theorem nats_lt {L : List Nat} (h : ∀ n ∈ nats L, -9223372036854775808 ≤ n ∧ n ≤ 9223372036854775807) : ∀ m ∈ L, m < 9223372036854775808 := fun m hm => by
  have := h (m : Int) (List.mem_map.2 ⟨m, hm, rfl⟩)
  omega
theorem count_le {B : List Int} {l : List Nat} (hB : Byts B) (h : getNums B = some l) : l.length ≤ B.length := by
  have e := getNums_get hB h
  have key : ∀ l : List Nat, l.length ≤ (vnums l).length := by
    intro l
    induction l with
    | nil => simp
    | cons m l ih =>
      have := vnum_pos m
      simp only [vnums, List.flatMap_cons, List.length_append, List.length_cons] at ih ⊢
      omega
  rw [e, putNums, List.length_append]
  have := key l
  omega
theorem countT_le {B : List Int} {l : List (List Int)} (hB : Byts B) (h : getPuts B = some l) : l.length ≤ B.length := by
  have e := getPuts_get hB h
  have key : ∀ l : List (List Int), l.length ≤ (vputs l).length := by
    intro l
    induction l with
    | nil => simp
    | cons s l ih =>
      have := vnum_pos s.length
      simp only [vputs, List.flatMap_cons, List.length_append, List.length_cons] at ih ⊢
      omega
  rw [e, putPuts, List.length_append]
  have := key l
  omega

theorem texts_back {B : List Int} {l : List (List Int)} (hB : Byts B) (h : getPuts B = some l) : putPuts ((l.map strOfNums).map byt) = B ∧ l.length ≤ B.length := by
  have e := getPuts_get hB h
  have key : ∀ s ∈ l, Byts s := by
    intro s hs x hx
    refine hB x ?_
    rw [e, putPuts]
    refine List.mem_append_right _ ?_
    exact List.mem_flatMap.2 ⟨s, hs, List.mem_append_right _ hx⟩
  have e2 : (l.map strOfNums).map byt = l := by
    rw [List.map_map]
    conv => rhs; rw [← List.map_id l]
    exact List.map_congr_left fun s hs => by simp only [Function.comp, id]; exact byt_of (key s hs)
  rw [e2]
  exact ⟨e.symm, countT_le hB h⟩
theorem nums_back {B : List Int} {l : List Nat} (hB : Byts B) (h : getNums B = some l) : putNums l = B ∧ l.length ≤ B.length ∧ ∀ m ∈ l, m < 9223372036854775808 := by
  refine ⟨(getNums_get hB h).symm, count_le hB h, ?_⟩
  rw [getNums_eq] at h
  cases hq : begNums B with
  | none => rw [hq] at h; cases h
  | some q =>
    obtain ⟨l1, r1⟩ := q
    rw [hq] at h
    simp at h
    obtain ⟨rfl, rfl⟩ := h
    unfold begNums at hq
    cases hgn : gn 0 0 B with
    | none => rw [hgn] at hq; cases hq
    | some p =>
      obtain ⟨m, j⟩ := p
      rw [hgn] at hq
      exact (rdNums_wf (hB.drop j) hq).1
theorem num_back {B : List Int} {m k : Nat} (hB : Byts B) (h : gn 0 0 B = some (m, k)) : B.take k = vnum m ∧ (vnum m).length = k ∧ k ≤ B.length ∧ m < 9223372036854775808 := by
  obtain ⟨r, e1, e2, e3, _, e5, _⟩ := put_get hB h
  refine ⟨?_, e2.symm, e5, e3⟩
  rw [e1, e2]; simp
theorem Rd.take {w : World} {A : Option Addr} {xs : List Value} (h : Rd w A xs) (k : Nat) : Rd w A (xs.take k) := fun hx => by
  have h0 : xs ≠ [] := fun e => hx (by rw [e]; simp)
  obtain ⟨b, off, e, hb, hc⟩ := h h0
  refine ⟨b, off, e, hb, fun i v hv => hc i v ?_⟩
  rw [List.getElem?_take] at hv
  split at hv
  · exact hv
  · cases hv

theorem putNums_lens {L : List Nat} (h : ∀ m ∈ L, m < 9223372036854775808) (hl : L.length ≤ 500) : (putNums L).length ≤ 100000 := by
  have h1 := vnums_len h
  have h2 := vnum_len_le L.length (by omega)
  simp only [putNums, List.length_append]
  omega
theorem putPuts_lens {L : List ByteArray} (h : L.length + totT L L.length ≤ 8000) : (putPuts (L.map byt)).length ≤ 100000 := by
  have h1 := vputs_len L (fun s hs => by have := text_le hs; omega)
  have h2 := vnum_len_le L.length (by omega)
  rw [putPuts_byt, List.length_append]
  omega
/-- what texts' bytes, and numbers' bytes, are read as: whole, with a byte behind, cut short -/
theorem read_texts {L : List ByteArray} (h : L.length + totT L L.length ≤ 8000) : textsOf (getPuts (putPuts (L.map byt))) = some (strs L) ∧
    textsOf (getPuts (putPuts (L.map byt) ++ [0])) = none ∧ (∀ k, k < (putPuts (L.map byt)).length → textsOf (getPuts ((putPuts (L.map byt)).take k)) = none) ∧ Byts (putPuts (L.map byt)) := by
  have hs : ∀ s ∈ L.map byt, s.length < 9223372036854775808 := by
    intro s hs
    obtain ⟨t, ht, rfl⟩ := List.mem_map.1 hs
    rw [byt_length]
    have := text_le ht
    omega
  have hl : (L.map byt).length < 9223372036854775808 := by rw [List.length_map]; omega
  have hb : ∀ s ∈ L.map byt, Byts s := by
    intro s hs
    obtain ⟨t, _, rfl⟩ := List.mem_map.1 hs
    exact byt_byts t
  have e : (L.map byt).map strOfNums = L := by
    rw [List.map_map]
    conv => rhs; rw [← List.map_id L]
    exact List.map_congr_left fun t _ => by simp only [Function.comp, id]; exact strOfNums_byt t
  refine ⟨?_, ?_, fun k hk => ?_, putPuts_byts _ hb⟩
  · rw [getPuts_put hs hl]; simp only [textsOf, Option.map_some, e]
  · rw [getPuts_more hs hl (by simp)]; rfl
  · rw [getPuts_short hb hs hl hk]; rfl
theorem read_nums {L : List Nat} (h : ∀ m ∈ L, m < 9223372036854775808) (hl : L.length ≤ 500) : numsOf (getNums (putNums L)) = some (i64s (nats L)) ∧
    numsOf (getNums (putNums L ++ [0])) = none ∧ (∀ k, k < (putNums L).length → numsOf (getNums ((putNums L).take k)) = none) ∧ Byts (putNums L) := by
  have hl2 : L.length < 9223372036854775808 := by omega
  refine ⟨?_, ?_, fun k hk => ?_, putNums_byts L⟩
  · rw [getNums_put h hl2]; rfl
  · rw [getNums_more h hl2 (by simp)]; rfl
  · rw [getNums_short h hl2 hk]; rfl

end Go.Proofs.Ytggohjdgenjijaa
