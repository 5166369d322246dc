/-
  A store on plain data: pairs by rising keys, what each record does to them, what each call does.
-/
import Derived.Test.YtaccmjgnggepjaaDPlain
import Derived.Test.YtaccmjgnggepjaaShelf
import Derived.Laws.BytesArg
import Derived.Lib.Bytes2
namespace Go.Proofs.Ytaccmjgnggepjaa
open Go.RowKit

abbrev PP := ByteArray × ByteArray
def keysP (l : List PP) : List ByteArray := l.map Prod.fst
def PP.cells (p : PP) : List Value := [.string p.1, .string p.2]
def cellsP (l : List PP) : List Value := l.flatMap PP.cells
theorem cellsP_length (ms : List PP) : (cellsP ms).length = ms.length * 2 := by
  induction ms with
  | nil => rfl
  | cons m ms ih => simp only [cellsP, List.flatMap_cons, List.length_append] at ih ⊢; rw [ih]; simp [PP.cells]; omega
theorem cellsP_append (a b : List PP) : cellsP (a ++ b) = cellsP a ++ cellsP b := by simp [cellsP]
theorem cellsP_one (p : PP) : cellsP [p] = p.cells := by simp [cellsP]
theorem cellsP_take (ms : List PP) (i : Nat) : (cellsP ms).take (i * 2) = cellsP (ms.take i) := by
  rcases Nat.lt_or_ge i ms.length with h | h
  · have e : cellsP ms = cellsP (ms.take i) ++ cellsP (ms.drop i) := by rw [← cellsP_append, List.take_append_drop]
    rw [e, List.take_append_of_le_length (by rw [cellsP_length, List.length_take]; omega), List.take_of_length_le (by rw [cellsP_length, List.length_take]; omega)]
  · rw [List.take_of_length_le h, List.take_of_length_le (by rw [cellsP_length]; omega)]
theorem cellsP_drop (ms : List PP) (i : Nat) : (cellsP ms).drop (i * 2) = cellsP (ms.drop i) := by
  rcases Nat.lt_or_ge i ms.length with h | h
  · have e : cellsP ms = cellsP (ms.take i) ++ cellsP (ms.drop i) := by rw [← cellsP_append, List.take_append_drop]
    have hl : (cellsP (ms.take i)).length = i * 2 := by rw [cellsP_length, List.length_take]; omega
    rw [e, List.drop_append_of_le_length (by omega), List.drop_of_length_le (by omega), List.nil_append]
  · rw [List.drop_of_length_le h, List.drop_of_length_le (by rw [cellsP_length]; omega)]; rfl
theorem cellsP_at {ms : List PP} {i : Nat} {m : PP} (h : ms[i]? = some m) {j : Nat} {v : Value} (hv : m.cells[j]? = some v) : (cellsP ms)[i * 2 + j]? = some v := by
  have hi := (List.getElem?_eq_some_iff.1 h).1
  have e : ms.drop i = m :: ms.drop (i + 1) := by
    rw [List.drop_eq_getElem_cons hi]
    congr 1
    exact (List.getElem?_eq_some_iff.1 h).2
  have hd : ((cellsP ms).drop (i * 2))[j]? = some v := by
    rw [cellsP_drop, e]
    show (m.cells ++ cellsP (ms.drop (i + 1)))[j]? = some v
    rw [List.getElem?_append_left (List.getElem?_eq_some_iff.1 hv).1]
    exact hv
  rwa [List.getElem?_drop] at hd
theorem cellsP_one' {l : List PP} : ∀ v ∈ cellsP l, v.oneCell' = true := by
  intro v hv
  simp only [cellsP, List.mem_flatMap, PP.cells, List.mem_cons, List.not_mem_nil, or_false] at hv
  obtain ⟨p, _, h | h⟩ := hv <;> subst h <;> rfl

/-! ### pairs -/
def posP (l : List PP) (k : ByteArray) : Nat := posN (keysP l) k
def hasP (l : List PP) (k : ByteArray) : Bool := hasN (keysP l) k
def setP (l : List PP) (k v : ByteArray) : List PP := l.take (posP l k) ++ (k, v) :: l.drop (posP l k + if hasP l k = true then 1 else 0)
def delP (l : List PP) (k : ByteArray) : List PP := if hasP l k = true then l.take (posP l k) ++ l.drop (posP l k + 1) else l
def getP (l : List PP) (k : ByteArray) : ByteArray × Int := if hasP l k = true then (((l[posP l k]?).map Prod.snd).getD ByteArray.empty, 0) else (ByteArray.empty, 3)
def cntP (p : PP) : Nat := p.1.size + p.2.size + 64
def sizeP : List PP → Nat
  | [] => 0
  | p :: l => cntP p + sizeP l
theorem sizeP_append (a b : List PP) : sizeP (a ++ b) = sizeP a + sizeP b := by
  induction a with
  | nil => simp [sizeP]
  | cons s l ih => simp only [List.cons_append, sizeP, ih]; omega
theorem sizeP_len : ∀ (l : List PP), l.length * 64 ≤ sizeP l
  | [] => by simp [sizeP]
  | s :: l => by
    have := sizeP_len l
    simp only [sizeP, List.length_cons, cntP]
    omega
theorem keysP_len (l : List PP) : (keysP l).length = l.length := List.length_map ..
theorem posP_le (l : List PP) (k : ByteArray) : posP l k ≤ l.length := by have := posN_le (keysP l) k; rwa [keysP_len] at this
theorem hasP_lt {l : List PP} {k : ByteArray} (h : hasP l k = true) : posP l k < l.length := by have := hasN_pos h; rwa [keysP_len] at this
theorem hasP_at {l : List PP} {k : ByteArray} (h : hasP l k = true) : ∃ v, l[posP l k]? = some (k, v) := by
  have h1 : (keysP l)[posP l k]? = some k := hasN_at h
  rw [keysP, List.getElem?_map] at h1
  cases hp : l[posP l k]? with
  | none => rw [hp] at h1; cases h1
  | some p =>
    rw [hp] at h1
    simp only [Option.map_some, Option.some.injEq] at h1
    exact ⟨p.2, by rw [← h1]⟩
theorem split_at {α : Type} {l : List α} {i : Nat} {p : α} (h : l[i]? = some p) : l = l.take i ++ p :: l.drop (i + 1) := by
  obtain ⟨hi, rfl⟩ := List.getElem?_eq_some_iff.1 h
  rw [← List.drop_eq_getElem_cons hi, List.take_append_drop]
theorem setP_no {l : List PP} {k v : ByteArray} (h : hasP l k = false) : setP l k v = l.take (posP l k) ++ (k, v) :: l.drop (posP l k) ∧ sizeP (setP l k v) = sizeP l + (k.size + v.size + 64) := by
  have e : setP l k v = l.take (posP l k) ++ (k, v) :: l.drop (posP l k) := by rw [setP, h]; rfl
  refine ⟨e, ?_⟩
  have e2 : sizeP l = sizeP (l.take (posP l k)) + sizeP (l.drop (posP l k)) := by rw [← sizeP_append, List.take_append_drop]
  rw [e, sizeP_append, sizeP, cntP]
  show _ + (k.size + v.size + 64 + _) = _
  omega
theorem setP_yes {l : List PP} {k v u : ByteArray} (h : hasP l k = true) (hu : l[posP l k]? = some (k, u)) : setP l k v = l.take (posP l k) ++ (k, v) :: l.drop (posP l k + 1) ∧ sizeP (setP l k v) + (k.size + u.size + 64) = sizeP l + (k.size + v.size + 64) := by
  have e : setP l k v = l.take (posP l k) ++ (k, v) :: l.drop (posP l k + 1) := by rw [setP, if_pos h]
  refine ⟨e, ?_⟩
  have e2 := split_at hu
  have e3 : sizeP l = sizeP (l.take (posP l k)) + (k.size + u.size + 64 + sizeP (l.drop (posP l k + 1))) := by
    conv => lhs; rw [e2, sizeP_append, sizeP, cntP]
  rw [e, sizeP_append, sizeP, cntP]
  show _ + (k.size + v.size + 64 + _) + _ = _
  omega
theorem setP_set {l : List PP} {k v u : ByteArray} (h : hasP l k = true) (hu : l[posP l k]? = some (k, u)) : setP l k v = l.set (posP l k) (k, v) := by
  rw [(setP_yes h hu).1, List.set_eq_take_append_cons_drop, if_pos (hasP_lt h)]
theorem delP_yes {l : List PP} {k u : ByteArray} (h : hasP l k = true) (hu : l[posP l k]? = some (k, u)) : delP l k = l.take (posP l k) ++ l.drop (posP l k + 1) ∧ sizeP (delP l k) + (k.size + u.size + 64) = sizeP l := by
  have e : delP l k = l.take (posP l k) ++ l.drop (posP l k + 1) := by rw [delP, if_pos h]
  refine ⟨e, ?_⟩
  have e2 := split_at hu
  have e3 : sizeP l = sizeP (l.take (posP l k)) + (k.size + u.size + 64 + sizeP (l.drop (posP l k + 1))) := by
    conv => lhs; rw [e2, sizeP_append, sizeP, cntP]
  rw [e, sizeP_append]
  omega

/-- the error of a Put -/
def checkP (l : List PP) (k v : ByteArray) : Int := if ¬ (1 ≤ k.size ∧ k.size ≤ 32 ∧ k.size + v.size ≤ 4032) then 1 else if 262144 < sizeP (setP l k v) then 8 else 0
def OkP (p : PP) : Prop := 1 ≤ p.1.size ∧ p.1.size ≤ 32 ∧ p.1.size + p.2.size ≤ 4032
def GoodP (l : List PP) : Prop := RiseN (keysP l) ∧ sizeP l ≤ 262144 ∧ ∀ p ∈ l, OkP p
theorem goodP_nil : GoodP [] := ⟨rise_nil, by decide, fun p hp => by simp at hp⟩
theorem GoodP.len {l : List PP} (h : GoodP l) : l.length ≤ 4096 := by have := sizeP_len l; have := h.2.1; omega
theorem GoodP.few {l : List PP} (h : GoodP l) : l.length < 4096 := by
  rcases Nat.lt_or_ge l.length 4096 with h1 | h1
  · exact h1
  · exfalso
    have h2 : ∀ (m : List PP), (∀ p ∈ m, OkP p) → m.length * 65 ≤ sizeP m := by
      intro m
      induction m with
      | nil => intro _; simp [sizeP]
      | cons p m ih =>
        intro hm
        have h3 := ih fun q hq => hm q (List.mem_cons_of_mem _ hq)
        have h4 := (hm p (List.mem_cons_self ..)).1
        simp only [sizeP, List.length_cons, cntP]
        omega
    have := h2 l h.2.2
    have := h.2.1
    omega
theorem keys_set {l : List PP} {k v : ByteArray} : keysP (setP l k v) = if hasP l k = true then keysP l else (keysP l).take (posN (keysP l) k) ++ k :: (keysP l).drop (posN (keysP l) k) := by
  split
  · rename_i h
    obtain ⟨u, hu⟩ := hasP_at h
    rw [(setP_yes h hu).1]
    conv => rhs; rw [split_at hu]
    simp [keysP]
  · rename_i h
    have h' : hasP l k = false := by simpa using h
    rw [(setP_no h').1]
    simp [keysP, posP]
theorem setP_rise {l : List PP} {k v : ByteArray} (h : RiseN (keysP l)) : RiseN (keysP (setP l k v)) := by
  rw [keys_set]
  split
  · exact h
  · rename_i hn
    exact rise_ins h (by simpa [hasP] using hn)
theorem delP_rise {l : List PP} {k : ByteArray} (h : RiseN (keysP l)) : RiseN (keysP (delP l k)) := by
  unfold delP
  split
  · have := rise_erase h (posP l k)
    rwa [keysP, ← List.map_take, ← List.map_drop, ← List.map_append] at this
  · exact h
theorem delP_good {l : List PP} {k : ByteArray} (h : GoodP l) : GoodP (delP l k) := by
  refine ⟨delP_rise h.1, ?_, ?_⟩
  · cases hh : hasP l k with
    | true =>
      obtain ⟨u, hu⟩ := hasP_at hh
      have := (delP_yes hh hu).2
      have := h.2.1
      omega
    | false =>
      have : delP l k = l := by rw [delP, hh]; rfl
      rw [this]
      exact h.2.1
  · intro p hp
    unfold delP at hp
    split at hp
    · rcases List.mem_append.1 hp with hp | hp
      · exact h.2.2 p (List.mem_of_mem_take hp)
      · exact h.2.2 p (List.mem_of_mem_drop hp)
    · exact h.2.2 p hp
theorem checkP_ok {l : List PP} {k v : ByteArray} (h : checkP l k v = 0) : OkP (k, v) ∧ sizeP (setP l k v) ≤ 262144 := by
  unfold checkP at h
  split at h
  · cases h
  · rename_i h1
    split at h
    · cases h
    · exact ⟨by unfold OkP; simp only [Decidable.not_not] at h1; exact h1, by omega⟩
theorem checkP_of {l : List PP} {k v : ByteArray} (h : OkP (k, v)) (h2 : sizeP (setP l k v) ≤ 262144) : checkP l k v = 0 := by
  unfold checkP
  rw [if_neg (fun hn => hn h), if_neg (by omega)]
theorem setP_good {l : List PP} {k v : ByteArray} (h : GoodP l) (hc : checkP l k v = 0) : GoodP (setP l k v) := by
  obtain ⟨h1, h2⟩ := checkP_ok hc
  refine ⟨setP_rise h.1, h2, fun p hp => ?_⟩
  rw [setP] at hp
  rcases List.mem_append.1 hp with hp | hp
  · exact h.2.2 p (List.mem_of_mem_take hp)
  · rcases List.mem_cons.1 hp with rfl | hp
    · exact h1
    · exact h.2.2 p (List.mem_of_mem_drop hp)

/-! ### records -/
def bPlus : ByteArray := ⟨#[43]⟩
def bMinus : ByteArray := ⟨#[45]⟩
def setR (p : PP) : ByteArray := ((bPlus ++ strOfNums [(p.1.size : Int)]) ++ p.1) ++ p.2
def delR (k : ByteArray) : ByteArray := bMinus ++ k
def cutP (c s : ByteArray) : ByteArray := ⟨(Lib.trimPrefix s.data.toList c.data.toList).toArray⟩
def preP (c s : ByteArray) : Bool := Lib.hasPrefix s.data.toList c.data.toList
def lenP (s : ByteArray) : Nat := ((byt s).getD 0 0).toNat
def parseP (r : ByteArray) : Option PP :=
  if preP bPlus r = false then none else if (cutP bPlus r).size < 1 then none else if (cutP bPlus r).size - 1 < lenP (cutP bPlus r) then none
  else some ((cutP bPlus r).extract 1 (1 + lenP (cutP bPlus r)), (cutP bPlus r).extract (1 + lenP (cutP bPlus r)) (cutP bPlus r).size)
def takeP (l : List PP) (r : ByteArray) : List PP :=
  if preP bMinus r = true then delP l (cutP bMinus r)
  else match parseP r with
    | none => l
    | some p => if checkP l p.1 p.2 = 0 then setP l p.1 p.2 else l
theorem takeP_good {l : List PP} {r : ByteArray} (h : GoodP l) : GoodP (takeP l r) := by
  unfold takeP
  split
  · exact delP_good h
  · split
    · exact h
    · split
      · rename_i hc
        exact setP_good h hc
      · exact h
def playP (l : List PP) (rs : List ByteArray) : List PP := rs.foldl takeP l
theorem playP_good {rs : List ByteArray} : ∀ {l : List PP}, GoodP l → GoodP (playP l rs) := by
  induction rs with
  | nil => intro l h; exact h
  | cons r rs ih => intro l h; exact ih (takeP_good h)
theorem playP_append (l : List PP) (a b : List ByteArray) : playP l (a ++ b) = playP (playP l a) b := List.foldl_append ..
theorem ba_data {a b : ByteArray} (h : a.data.toList = b.data.toList) : a = b := by
  cases a; cases b
  exact congrArg ByteArray.mk (Array.toList_inj.1 h)
theorem data_app (a b : ByteArray) : (a ++ b).data.toList = a.data.toList ++ b.data.toList := by simp
theorem sizeR {p : PP} : (setR p).size = p.1.size + p.2.size + 2 := by
  simp only [setR, ByteArray.size_append, bPlus]
  rw [show (strOfNums [(p.1.size : Int)]).size = 1 from rfl]
  show 1 + 1 + _ + _ = _
  omega
theorem sizeD (k : ByteArray) : (delR k).size = k.size + 1 := by
  simp only [delR, ByteArray.size_append, bMinus]
  show 1 + _ = _
  omega

end Go.Proofs.Ytaccmjgnggepjaa
/-
  Records of a store: what was written is read back.
-/
namespace Go.Proofs.Ytaccmjgnggepjaa

theorem plus_data : bPlus.data.toList = [43] := rfl
theorem minus_data : bMinus.data.toList = [45] := rfl
theorem one_data (n : Nat) : (strOfNums [(n : Int)]).data.toList = [UInt8.ofNat n] := by simp [strOfNums]
theorem setR_data (p : PP) : (setR p).data.toList = 43 :: UInt8.ofNat p.1.size :: (p.1.data.toList ++ p.2.data.toList) := by
  rw [setR, data_app, data_app, data_app, plus_data, one_data]
  simp
theorem pre_set (p : PP) : preP bPlus (setR p) = true ∧ preP bMinus (setR p) = false := by
  unfold preP
  rw [setR_data, plus_data, minus_data]
  exact ⟨rfl, rfl⟩
theorem cut_set (p : PP) : (cutP bPlus (setR p)).data.toList = UInt8.ofNat p.1.size :: (p.1.data.toList ++ p.2.data.toList) := by
  have h := (pre_set p).1
  unfold preP at h
  unfold cutP Lib.trimPrefix
  rw [if_pos h, setR_data, plus_data]
  rfl
theorem ext_data (s : ByteArray) (a b : Nat) : (s.extract a b).data.toList = (s.data.toList.drop a).take (b - a) := by
  rw [ByteArray.data_extract, Array.toList_extract, List.extract]
theorem size_data (s : ByteArray) : s.size = s.data.toList.length := by simp
theorem parse_set {p : PP} (h : OkP p) : parseP (setR p) = some p := by
  obtain ⟨h1, h2, h3⟩ := h
  have hc := cut_set p
  obtain ⟨c, hcc⟩ : ∃ c, cutP bPlus (setR p) = c := ⟨_, rfl⟩
  rw [hcc] at hc
  have hsz : c.size = p.1.size + p.2.size + 1 := by
    rw [size_data, hc, List.length_cons, List.length_append, ← size_data, ← size_data]
  have hln : lenP c = p.1.size := by
    unfold lenP byt
    rw [hc]
    simp only [List.map_cons, List.getD_cons_zero]
    rw [UInt8.toNat_ofNat']
    simp
    omega
  unfold parseP
  rw [(pre_set p).1, hcc, hln, if_neg (by decide), if_neg (by omega), if_neg (by omega)]
  have e1 : c.extract 1 (1 + p.1.size) = p.1 := by
    apply ba_data
    rw [ext_data, hc]
    simp only [List.drop_succ_cons, List.drop_zero]
    rw [show 1 + p.1.size - 1 = p.1.data.toList.length by rw [← size_data]; omega, List.take_left]
  have e2 : c.extract (1 + p.1.size) c.size = p.2 := by
    apply ba_data
    rw [ext_data, hc, Nat.add_comm 1, List.drop_succ_cons, show p.1.size = p.1.data.toList.length from size_data _, List.drop_left, hsz, ← size_data]
    apply List.take_of_length_le
    rw [← size_data]
    omega
  rw [e1, e2]
theorem take_set {p : PP} (h : OkP p) (l : List PP) : takeP l (setR p) = if checkP l p.1 p.2 = 0 then setP l p.1 p.2 else l := by
  unfold takeP
  rw [(pre_set p).2, if_neg (by decide), parse_set h]
theorem take_del (k : ByteArray) (l : List PP) : takeP l (delR k) = delP l k := by
  have hp : preP bMinus (delR k) = true := by
    unfold preP
    rw [delR, data_app, minus_data]
    simp [Lib.hasPrefix, List.isPrefixOf]
  have hc : cutP bMinus (delR k) = k := by
    apply ba_data
    unfold preP at hp
    unfold cutP Lib.trimPrefix
    rw [if_pos hp, delR, data_app, minus_data]
    simp
  unfold takeP
  rw [if_pos hp, hc]

theorem pos_end : ∀ {l : List ByteArray} {k : ByteArray}, (∀ a ∈ l, ltN a k = true) → posN l k = l.length
  | [], _, _ => rfl
  | a :: l, k, h => by
    unfold posN
    rw [if_pos (h a (List.mem_cons_self ..)), pos_end fun b hb => h b (List.mem_cons_of_mem _ hb)]
    rfl
theorem set_end {l : List PP} {p : PP} (h : ∀ a ∈ keysP l, ltN a p.1 = true) : setP l p.1 p.2 = l ++ [p] := by
  have h1 : posP l p.1 = l.length := by rw [posP, pos_end h, keysP_len]
  have h2 : hasP l p.1 = false := by
    rw [hasP, hasN, pos_end h]
    simp
  rw [(setP_no h2).1, h1, List.take_length, List.drop_length]
theorem play_sets : ∀ (r l : List PP), GoodP (l ++ r) → playP l (r.map setR) = l ++ r
  | [], l, _ => by simp [playP]
  | p :: r, l, h => by
    have hp : OkP p := h.2.2 p (by simp)
    have hrise : ∀ a ∈ keysP l, ltN a p.1 = true := fun a ha => by
      have h1 := h.1
      rw [RiseN, keysP, List.map_append, List.pairwise_append] at h1
      exact h1.2.2 a ha p.1 (by simp)
    have hset := set_end hrise
    have hsz : sizeP (setP l p.1 p.2) ≤ 262144 := by
      rw [hset]
      have h2 := h.2.1
      have e : l ++ p :: r = (l ++ [p]) ++ r := by simp
      rw [e, sizeP_append] at h2
      omega
    have e : l ++ p :: r = (l ++ [p]) ++ r := by simp
    rw [e] at h ⊢
    rw [← play_sets r (l ++ [p]) h]
    show playP (takeP l (setR p)) (r.map setR) = _
    rw [take_set hp, if_pos (checkP_of (k := p.1) (v := p.2) hp hsz), hset]
theorem play_back {l : List PP} (h : GoodP l) : playP [] (l.map setR) = l := play_sets l [] h

end Go.Proofs.Ytaccmjgnggepjaa
