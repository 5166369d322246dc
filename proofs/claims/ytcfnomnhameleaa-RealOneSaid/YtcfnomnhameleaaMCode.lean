/-
  The landed encoding of messages, as plain lists: numbers in so many bytes, lists with their count, what a kind names; and there and back.
-/
import Derived.Test.YtcfnomnhameleaaZE
import Derived.Test.YtcfnomnhameleaaZD
namespace Go.Proofs.Ytcfnomnhameleaa
open Go.RowKit

/-! ### numbers in so many bytes, the highest first -/
def be : Nat → Int → List Int
  | 0, _ => []
  | k + 1, n => n / 256 ^ k % 256 :: be k n
theorem be_length : ∀ (k : Nat) (n : Int), (be k n).length = k
  | 0, _ => rfl
  | k + 1, n => by rw [be, List.length_cons, be_length k n]
theorem be_byts : ∀ (k : Nat) (n : Int), Byts (be k n)
  | 0, _ => Byts.nil
  | k + 1, n => Byts.cons (by unfold Byt; omega) (be_byts k n)
def bes (k : Nat) (l : List Int) : List Int := l.flatMap (be k)
theorem bes_nil (k : Nat) : bes k [] = [] := rfl
theorem bes_cons (k : Nat) (x : Int) (l : List Int) : bes k (x :: l) = be k x ++ bes k l := by simp [bes]
theorem bes_append (k : Nat) (a b : List Int) : bes k (a ++ b) = bes k a ++ bes k b := by simp [bes]
theorem bes_length (k : Nat) : ∀ l : List Int, (bes k l).length = k * l.length
  | [] => by simp [bes]
  | x :: l => by rw [bes_cons, List.length_append, be_length, bes_length k l, List.length_cons, Nat.mul_add, Nat.mul_one, Nat.add_comm]
theorem bes_byts (k : Nat) : ∀ l : List Int, Byts (bes k l)
  | [] => Byts.nil
  | x :: l => by rw [bes_cons]; exact (be_byts k x).append (bes_byts k l)
/-- what bytes are as a number -/
def beVal : Int → List Int → Int
  | acc, [] => acc
  | acc, c :: r => beVal (acc * 256 + c) r
theorem be_one (n : Int) : be 1 n = [n % 256] := by simp [be]
theorem be_three (n : Int) : be 3 n = [n / 65536 % 256, n / 256 % 256, n % 256] := by simp [be]
def Sz (k : Nat) : Prop := k = 1 ∨ k = 3
def top (k : Nat) : Int := 256 ^ k
theorem top_one : top 1 = 256 := rfl
theorem top_three : top 3 = 16777216 := rfl
theorem val_be {k : Nat} (hk : Sz k) {n : Int} (h0 : 0 ≤ n) (h1 : n < top k) : beVal 0 (be k n) = n := by
  rcases hk with rfl | rfl
  · rw [be_one]; rw [top_one] at h1; simp only [beVal]; omega
  · rw [be_three]; rw [top_three] at h1; simp only [beVal]; omega
theorem be_val {k : Nat} (hk : Sz k) {b : List Int} (hb : Byts b) (hl : b.length = k) : be k (beVal 0 b) = b ∧ 0 ≤ beVal 0 b ∧ beVal 0 b < top k := by
  rcases hk with rfl | rfl
  · match b, hl with
    | [x], _ =>
      have := hb x (by simp)
      unfold Byt at this
      rw [be_one, top_one]; simp only [beVal]
      refine ⟨by congr 1; omega, by omega, by omega⟩
  · match b, hl with
    | [x, y, z], _ =>
      have h1 := hb x (by simp)
      have h2 := hb y (by simp)
      have h3 := hb z (by simp)
      unfold Byt at h1 h2 h3
      rw [be_three, top_three]; simp only [beVal]
      refine ⟨?_, by omega, by omega⟩
      congr 1
      · omega
      · congr 1
        · omega
        · congr 1; omega
def cutN (k : Nat) (b : List Int) : Option (Int × List Int) := if b.length < k then none else some (beVal 0 (b.take k), b.drop k)
theorem cutN_none {k : Nat} {b : List Int} (h : b.length < k) : cutN k b = none := by rw [cutN, if_pos h]
theorem cutN_some {k : Nat} {b : List Int} (h : k ≤ b.length) : cutN k b = some (beVal 0 (b.take k), b.drop k) := by rw [cutN, if_neg (by omega)]
theorem cutN_put {k : Nat} (hk : Sz k) {n : Int} (h0 : 0 ≤ n) (h1 : n < top k) (r : List Int) : cutN k (be k n ++ r) = some (n, r) := by
  rw [cutN_some (by rw [List.length_append, be_length]; omega), List.take_append_of_le_length (Nat.le_of_eq (be_length k n).symm), List.take_of_length_le (Nat.le_of_eq (be_length k n)), val_be hk h0 h1]
  rw [List.drop_append_of_le_length (Nat.le_of_eq (be_length k n).symm), List.drop_of_length_le (Nat.le_of_eq (be_length k n)), List.nil_append]
theorem cutN_get {k : Nat} (hk : Sz k) {b : List Int} (hb : Byts b) {n : Int} {r : List Int} (h : cutN k b = some (n, r)) : b = be k n ++ r ∧ 0 ≤ n ∧ n < top k := by
  by_cases hl : b.length < k
  · rw [cutN_none hl] at h; cases h
  · rw [cutN_some (by omega)] at h
    simp only [Option.some.injEq, Prod.mk.injEq] at h
    obtain ⟨rfl, rfl⟩ := h
    obtain ⟨h1, h2, h3⟩ := be_val hk (hb.take k) (by rw [List.length_take]; omega)
    refine ⟨?_, h2, h3⟩
    rw [h1, List.take_append_drop]
/-! ### lists with their count -/
def cutM (k : Nat) : Nat → List Int → Option (List Int × List Int)
  | 0, b => some ([], b)
  | c + 1, b => (cutN k b).bind fun p => (cutM k c p.2).map fun q => (p.1 :: q.1, q.2)
def cutL (k : Nat) (b : List Int) : Option (List Int × List Int) := (cutN 1 b).bind fun p => cutM k p.1.toNat p.2
def putL (k : Nat) (l : List Int) : List Int := be 1 (l.length : Int) ++ bes k l
theorem putL_byts (k : Nat) (l : List Int) : Byts (putL k l) := (be_byts _ _).append (bes_byts _ _)
theorem putL_length (k : Nat) (l : List Int) : (putL k l).length = 1 + k * l.length := by rw [putL, List.length_append, be_length, bes_length]
theorem cutM_put {k : Nat} (hk : Sz k) : ∀ (l : List Int) (r : List Int), (∀ x ∈ l, 0 ≤ x ∧ x < top k) → cutM k l.length (bes k l ++ r) = some (l, r)
  | [], r, _ => rfl
  | x :: l, r, h => by
    have hx := h x (by simp)
    rw [List.length_cons, cutM, bes_cons, List.append_assoc, cutN_put hk hx.1 hx.2, Option.bind_some, cutM_put hk l r (fun y hy => h y (by simp [hy]))]
    rfl
theorem cutM_get {k : Nat} (hk : Sz k) : ∀ (c : Nat) (b l r : List Int), Byts b → cutM k c b = some (l, r) → b = bes k l ++ r ∧ l.length = c ∧ Byts r ∧ ∀ x ∈ l, 0 ≤ x ∧ x < top k
  | 0, b, l, r, hb, h => by
    simp only [cutM, Option.some.injEq, Prod.mk.injEq] at h
    obtain ⟨rfl, rfl⟩ := h
    exact ⟨rfl, rfl, hb, fun x hx => by simp at hx⟩
  | c + 1, b, l, r, hb, h => by
    rw [cutM, Option.bind_eq_some_iff] at h
    obtain ⟨⟨x, b'⟩, h1, h2⟩ := h
    obtain ⟨rfl, h0, h3⟩ := cutN_get hk hb h1
    have hb' : Byts b' := fun y hy => hb y (by simp [hy])
    rw [Option.map_eq_some_iff] at h2
    obtain ⟨⟨l', r'⟩, h4, h5⟩ := h2
    simp only [Prod.mk.injEq] at h5
    obtain ⟨rfl, rfl⟩ := h5
    obtain ⟨h6, h7, h8, h9⟩ := cutM_get hk c b' l' r' hb' h4
    refine ⟨by rw [bes_cons, List.append_assoc, ← h6], by rw [List.length_cons, h7], h8, fun y hy => ?_⟩
    rcases List.mem_cons.1 hy with rfl | hy
    · exact ⟨h0, h3⟩
    · exact h9 y hy
theorem sz_one : Sz 1 := .inl rfl
theorem sz_three : Sz 3 := .inr rfl
theorem cutL_put {k : Nat} (hk : Sz k) {l : List Int} (h : ∀ x ∈ l, 0 ≤ x ∧ x < top k) (hl : l.length < 256) (r : List Int) : cutL k (putL k l ++ r) = some (l, r) := by
  rw [cutL, putL, List.append_assoc, cutN_put sz_one (by omega) (by rw [top_one]; omega), Option.bind_some]
  simp only [Int.toNat_natCast]
  exact cutM_put hk l r h
theorem cutL_get {k : Nat} (hk : Sz k) {b l r : List Int} (hb : Byts b) (h : cutL k b = some (l, r)) : b = putL k l ++ r ∧ Byts r := by
  rw [cutL, Option.bind_eq_some_iff] at h
  obtain ⟨⟨c, b'⟩, h1, h2⟩ := h
  obtain ⟨rfl, h0, h3⟩ := cutN_get sz_one hb h1
  have hb' : Byts b' := fun y hy => hb y (by simp [hy])
  obtain ⟨h6, h7, h8, _⟩ := cutM_get hk c.toNat b' l r hb' h2
  refine ⟨?_, h8⟩
  rw [putL, h7, List.append_assoc, ← h6, Int.toNat_of_nonneg h0]

/-! ### messages -/
def restE (m : MsgD) : List Int :=
  if m.k = 1 ∨ m.k = 3 then be 3 m.d ++ batBytes m.ba m.bn m.L
  else if m.k = 2 ∨ m.k = 5 then be 3 m.d
  else if m.k = 4 then be 3 m.d ++ headBytes m.ha m.hr m.hB m.hP
  else if m.k = 6 then be 3 m.cd ++ (putL 1 m.cS ++ headBytes m.ca m.cr m.cB m.cP)
  else if m.k = 7 ∨ m.k = 8 then putL 3 m.D
  else []
def encM (m : MsgD) (_ : Int) : List Int := bes 1 [m.k, m.f, m.t] ++ restE m
def restD (k f t : Int) (b : List Int) : Option MsgD :=
  if k = 1 ∨ k = 3 then (cutN 3 b).bind fun p => (parseB p.2).map fun q => { zeroM with k := k, f := f, t := t, d := p.1, ba := q.1, bn := q.2.1, L := q.2.2 }
  else if k = 2 ∨ k = 5 then (cutN 3 b).bind fun p => if p.2 = [] then some { zeroM with k := k, f := f, t := t, d := p.1 } else none
  else if k = 4 then (cutN 3 b).bind fun p => (parseH p.2).map fun q => { zeroM with k := k, f := f, t := t, d := p.1, ha := q.1, hr := q.2.1, hB := q.2.2.1, hP := q.2.2.2 }
  else if k = 6 then (cutN 3 b).bind fun p => (cutL 1 p.2).bind fun s => (parseH s.2).map fun q => { zeroM with k := k, f := f, t := t, ca := q.1, cr := q.2.1, cB := q.2.2.1, cP := q.2.2.2, cd := p.1, cS := s.1 }
  else if k = 7 ∨ k = 8 then (cutL 3 b).bind fun p => if p.2 = [] then some { zeroM with k := k, f := f, t := t, D := p.1 } else none
  else none
def decM (x : List Int) (n : Int) : Option MsgD :=
  match x with
  | k :: f :: t :: b => (restD k f t b).bind fun m => if messB m n = true then some m else none
  | _ => none
theorem decM_three (k f t : Int) (b : List Int) (n : Int) : decM (k :: f :: t :: b) n = (restD k f t b).bind fun m => if messB m n = true then some m else none := rfl
theorem decM_short {x : List Int} (n : Int) (h : x.length < 3) : decM x n = none := by
  match x, h with
  | [], _ => rfl
  | [_], _ => rfl
  | [_, _], _ => rfl
theorem headBytes_pos (a r : Int) (B P : List Int) : 0 < (headBytes a r B P).length := by
  have := vnum_pos ((headTexts a r B P).map byt).length
  rw [headBytes, putPuts, List.length_append]
  omega
theorem hdr_wide {a r : Int} {B P : List Int} {n : Int} (h : hdrB a r B P n = true) : wideB a r B P = true := by
  simp only [hdrB, decide_eq_true_eq] at h
  obtain ⟨hm, ha, hr, hB, hP, hl⟩ := h
  simp only [mayB, decide_eq_true_eq] at hm
  simp only [wideB, decide_eq_true_eq]
  rw [digsB_iff] at hP
  refine ⟨by omega, hr, hB, digsB_iff.2 ⟨by omega, hP.2⟩, ?_⟩
  by_cases h1 : r = 1
  · rw [if_pos h1] at hl; exact .inr hl
  · exact .inl (by omega)
theorem mess_parts {m : MsgD} {n : Int} (h : messB m n = true) : (mayB n = true ∧ (1 ≤ m.f ∧ m.f ≤ n) ∧ (1 ≤ m.t ∧ m.t ≤ n) ∧ m.f ≠ m.t) ∧ formB m n = true ∧ onlyM m = m := by
  unfold messB at h
  rw [Bool.and_eq_true, Bool.and_eq_true, decide_eq_true_eq] at h
  obtain ⟨h1, h2, h3⟩ := h
  unfold idsB at h1
  rw [decide_eq_true_eq] at h1
  exact ⟨h1, h2, h3⟩
theorem may_le {n : Int} (h : mayB n = true) : 1 ≤ n ∧ n ≤ 16 := by
  simp only [mayB, decide_eq_true_eq] at h
  omega
theorem mess_kind {m : MsgD} {n : Int} (h : formB m n = true) : 1 ≤ m.k ∧ m.k ≤ 8 := by
  unfold formB at h
  repeat' split at h
  all_goals first | omega | cases h
theorem digB_top {d : Int} (h : digB d = true) : 0 ≤ d ∧ d < top 3 := by
  simp only [digB, decide_eq_true_eq] at h
  rw [top_three]; omega
theorem digs_top {l : List Int} {n : Int} (h : digsB l n = true) : ∀ x ∈ l, 0 ≤ x ∧ x < top 3 := fun x hx => by
  have := (digsB_iff.1 h).2.1 x hx
  rw [top_three]; omega
theorem sig_top {S : List Int} {n : Int} (h : betB 1 n S = true) (hn : n ≤ 16) : ∀ x ∈ S, 0 ≤ x ∧ x < top 1 := fun x hx => by
  have := betB_iff.1 h x hx
  rw [top_one]; omega
theorem cert_parts {a r : Int} {B P : List Int} {d : Int} {S : List Int} {n : Int} (h : certB a r B P d S n = true) : hdrB a r B P n = true ∧ digB d = true ∧ (∀ x ∈ S, 0 ≤ x ∧ x < top 1) ∧ S.length ≤ 16 := by
  simp only [certB, decide_eq_true_eq] at h
  obtain ⟨h1, h2, h3, h4, _⟩ := h
  have hn : n ≤ 16 := (may_le (by simp only [hdrB, decide_eq_true_eq] at h1; exact h1.1)).2
  exact ⟨h1, by simp only [digB, decide_eq_true_eq]; exact h2, sig_top h4 hn, rise_few h3 h4 hn⟩
theorem rest_put {m : MsgD} {n : Int} (hf : formB m n = true) (ho : onlyM m = m) : restD m.k m.f m.t (restE m) = some m := by
  unfold formB at hf
  unfold onlyM at ho
  unfold restD restE
  by_cases h1 : m.k = 1 ∨ m.k = 3
  · simp only [if_pos h1] at hf ho ⊢
    rw [Bool.and_eq_true, Bool.and_eq_true] at hf
    have hd := digB_top hf.1
    rw [cutN_put sz_three hd.1 hd.2, Option.bind_some]
    simp only []
    rw [parse_put hf.2.1]
    exact congrArg some ho
  · by_cases h2 : m.k = 2 ∨ m.k = 5
    · simp only [if_neg h1, if_pos h2] at hf ho ⊢
      have hd := digB_top hf
      have e := cutN_put sz_three hd.1 hd.2 []
      rw [List.append_nil] at e
      rw [e, Option.bind_some, if_pos rfl]
      exact congrArg some ho
    · by_cases h4 : m.k = 4
      · simp only [if_neg h1, if_neg h2, if_pos h4] at hf ho ⊢
        rw [Bool.and_eq_true, Bool.and_eq_true] at hf
        have hd := digB_top hf.1
        rw [cutN_put sz_three hd.1 hd.2, Option.bind_some]
        simp only []
        rw [parseH_put (hdr_wide hf.2.1)]
        exact congrArg some ho
      · by_cases h6 : m.k = 6
        · simp only [if_neg h1, if_neg h2, if_neg h4, if_pos h6] at hf ho ⊢
          obtain ⟨hh, hd, hs, hl⟩ := cert_parts hf
          have hd := digB_top hd
          rw [cutN_put sz_three hd.1 hd.2, Option.bind_some]
          simp only []
          rw [cutL_put sz_one hs (by omega), Option.bind_some]
          simp only []
          rw [parseH_put (hdr_wide hh)]
          exact congrArg some ho
        · by_cases h7 : m.k = 7 ∨ m.k = 8
          · simp only [if_neg h1, if_neg h2, if_neg h4, if_neg h6, if_pos h7] at hf ho ⊢
            rw [Bool.and_eq_true] at hf
            have hl := (digsB_iff.1 hf.2).1
            have e := cutL_put sz_three (digs_top hf.2) (by omega) []
            rw [List.append_nil] at e
            rw [e, Option.bind_some, if_pos rfl]
            exact congrArg some ho
          · simp only [if_neg h1, if_neg h2, if_neg h4, if_neg h6, if_neg h7] at hf
            cases hf
theorem rest_get {k f t : Int} {b : List Int} {m : MsgD} (hb : Byts b) (h : restD k f t b = some m) : b = restE m ∧ m.k = k ∧ m.f = f ∧ m.t = t := by
  unfold restD at h
  by_cases h1 : k = 1 ∨ k = 3
  · rw [if_pos h1, Option.bind_eq_some_iff] at h
    obtain ⟨⟨d, r⟩, hd, h⟩ := h
    rw [Option.map_eq_some_iff] at h
    obtain ⟨⟨a, N, L⟩, hp, rfl⟩ := h
    obtain ⟨rfl, _, _⟩ := cutN_get sz_three hb hd
    obtain ⟨_, hr⟩ := parse_get (fun y hy => hb y (by simp [hy])) hp
    refine ⟨?_, rfl, rfl, rfl⟩
    unfold restE
    simp only at hr
    simp only [if_pos h1, hr]
  · by_cases h2 : k = 2 ∨ k = 5
    · rw [if_neg h1, if_pos h2, Option.bind_eq_some_iff] at h
      obtain ⟨⟨d, r⟩, hd, h⟩ := h
      by_cases hr : r = []
      · rw [if_pos hr] at h
        simp only [Option.some.injEq] at h
        subst h hr
        obtain ⟨rfl, _, _⟩ := cutN_get sz_three hb hd
        refine ⟨?_, rfl, rfl, rfl⟩
        unfold restE
        simp only [if_neg h1, if_pos h2, List.append_nil]
      · rw [if_neg hr] at h; cases h
    · by_cases h4 : k = 4
      · rw [if_neg h1, if_neg h2, if_pos h4, Option.bind_eq_some_iff] at h
        obtain ⟨⟨d, r⟩, hd, h⟩ := h
        rw [Option.map_eq_some_iff] at h
        obtain ⟨⟨a, q, B, P⟩, hp, rfl⟩ := h
        obtain ⟨rfl, _, _⟩ := cutN_get sz_three hb hd
        obtain ⟨_, hr⟩ := parseH_get (fun y hy => hb y (by simp [hy])) hp
        refine ⟨?_, rfl, rfl, rfl⟩
        unfold restE
        simp only at hr
        simp only [if_neg h1, if_neg h2, if_pos h4, hr]
      · by_cases h6 : k = 6
        · rw [if_neg h1, if_neg h2, if_neg h4, if_pos h6, Option.bind_eq_some_iff] at h
          obtain ⟨⟨d, r⟩, hd, h⟩ := h
          rw [Option.bind_eq_some_iff] at h
          obtain ⟨⟨S, r2⟩, hs, h⟩ := h
          rw [Option.map_eq_some_iff] at h
          obtain ⟨⟨a, q, B, P⟩, hp, rfl⟩ := h
          obtain ⟨rfl, _, _⟩ := cutN_get sz_three hb hd
          obtain ⟨hr, hb2⟩ := cutL_get sz_one (fun y hy => hb y (by simp [hy])) hs
          obtain ⟨_, hr2⟩ := parseH_get hb2 hp
          simp only at hr hr2
          refine ⟨?_, rfl, rfl, rfl⟩
          unfold restE
          simp only [if_neg h1, if_neg h2, if_neg h4, if_pos h6, hr, hr2]
        · by_cases h7 : k = 7 ∨ k = 8
          · rw [if_neg h1, if_neg h2, if_neg h4, if_neg h6, if_pos h7, Option.bind_eq_some_iff] at h
            obtain ⟨⟨l, r⟩, hl, h⟩ := h
            by_cases hr : r = []
            · rw [if_pos hr] at h
              simp only [Option.some.injEq] at h
              subst h hr
              obtain ⟨hr, _⟩ := cutL_get sz_three hb hl
              refine ⟨?_, rfl, rfl, rfl⟩
              unfold restE
              simp only [if_neg h1, if_neg h2, if_neg h4, if_neg h6, if_pos h7]
              rw [hr, List.append_nil]
            · rw [if_neg hr] at h; cases h
          · rw [if_neg h1, if_neg h2, if_neg h4, if_neg h6, if_neg h7] at h
            cases h
theorem heads_three {m : MsgD} (h : (0 ≤ m.k ∧ m.k < 256) ∧ (0 ≤ m.f ∧ m.f < 256) ∧ (0 ≤ m.t ∧ m.t < 256)) : bes 1 [m.k, m.f, m.t] = [m.k, m.f, m.t] := by
  rw [bes_cons, bes_cons, bes_cons, bes_nil, be_one, be_one, be_one]
  simp only [List.append_nil, List.cons_append, List.nil_append]
  congr 1
  · omega
  · congr 1
    · omega
    · congr 1; omega
theorem mess_heads {m : MsgD} {n : Int} (h : messB m n = true) : bes 1 [m.k, m.f, m.t] = [m.k, m.f, m.t] := by
  obtain ⟨⟨hm, hf, ht, _⟩, hform, _⟩ := mess_parts h
  have := may_le hm
  have := mess_kind hform
  exact heads_three ⟨by omega, by omega, by omega⟩
theorem dec_enc {m : MsgD} {n : Int} (h : messB m n = true) : decM (encM m n) n = some m := by
  obtain ⟨_, hform, ho⟩ := mess_parts h
  rw [encM, mess_heads h, List.cons_append, List.cons_append, List.cons_append, List.nil_append, decM_three, rest_put hform ho, Option.bind_some, if_pos h]
theorem dec_get {x : List Int} {m : MsgD} {n : Int} (hx : Byts x) (h : decM x n = some m) : messB m n = true ∧ x = encM m n := by
  match x, hx, h with
  | k :: f :: t :: b, hx, h =>
    rw [decM_three, Option.bind_eq_some_iff] at h
    obtain ⟨m', hr, h⟩ := h
    by_cases hm : messB m' n = true
    · rw [if_pos hm] at h
      simp only [Option.some.injEq] at h
      subst h
      obtain ⟨hb, rfl, rfl, rfl⟩ := rest_get hx.tail.tail.tail hr
      refine ⟨hm, ?_⟩
      rw [encM, mess_heads hm, ← hb]
      rfl
    · rw [if_neg hm] at h; cases h
theorem rest_byts (m : MsgD) : Byts (restE m) := by
  unfold restE
  repeat' split
  · exact (be_byts _ _).append (batBytes_byts _ _ _)
  · exact be_byts _ _
  · exact (be_byts _ _).append (headBytes_byts _ _ _ _)
  · exact (be_byts _ _).append ((putL_byts _ _).append (headBytes_byts _ _ _ _))
  · exact putL_byts _ _
  · exact Byts.nil
theorem enc_byts (m : MsgD) (n : Int) : Byts (encM m n) := (bes_byts _ _).append (rest_byts m)

theorem rest_small {m : MsgD} {n : Int} (h : messB m n = true) : (restE m).length ≤ 2100 := by
  obtain ⟨_, hf, _⟩ := mess_parts h
  unfold formB at hf
  unfold restE
  by_cases h1 : m.k = 1 ∨ m.k = 3
  · simp only [if_pos h1] at hf ⊢
    rw [Bool.and_eq_true, Bool.and_eq_true] at hf
    have := bytes_small hf.2.1
    rw [List.length_append, be_length]; omega
  · by_cases h2 : m.k = 2 ∨ m.k = 5
    · simp only [if_neg h1, if_pos h2] at hf ⊢
      rw [be_length]; omega
    · by_cases h4 : m.k = 4
      · simp only [if_neg h1, if_neg h2, if_pos h4] at hf ⊢
        rw [Bool.and_eq_true, Bool.and_eq_true] at hf
        have := head_small (hdr_wide hf.2.1)
        rw [List.length_append, be_length]; omega
      · by_cases h6 : m.k = 6
        · simp only [if_neg h1, if_neg h2, if_neg h4, if_pos h6] at hf ⊢
          obtain ⟨hh, _, _, hl⟩ := cert_parts hf
          have := head_small (hdr_wide hh)
          rw [List.length_append, List.length_append, be_length, putL_length]; omega
        · by_cases h7 : m.k = 7 ∨ m.k = 8
          · simp only [if_neg h1, if_neg h2, if_neg h4, if_neg h6, if_pos h7] at hf ⊢
            rw [Bool.and_eq_true] at hf
            have hl := (digsB_iff.1 hf.2).1
            rw [putL_length]; omega
          · simp only [if_neg h1, if_neg h2, if_neg h4, if_neg h6, if_neg h7] at hf
            cases hf
theorem enc_small {m : MsgD} {n : Int} (h : messB m n = true) : (encM m n).length ≤ 1000000 := by
  have := rest_small h
  rw [encM, List.length_append, bes_length]
  simp only [List.length_cons, List.length_nil]
  omega
theorem mcodec : MCodec encM decM := ⟨fun _ _ h => enc_small h, fun m n _ => enc_byts m n, fun _ _ h => dec_enc h, fun _ _ _ hx h => dec_get hx h⟩

end Go.Proofs.Ytcfnomnhameleaa
