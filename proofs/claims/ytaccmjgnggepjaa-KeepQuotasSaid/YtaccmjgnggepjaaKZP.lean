/-
  The bytes of records in plain words: what is read of what was written, and of what a crash has torn.
-/
import Derived.Test.YtaccmjgnggepjaaKZO
import Derived.Test.YtaccmjgnggepjaaKZJ
namespace Go.Proofs.Ytaccmjgnggepjaa

theorem lenB_rec (s : ByteArray) (t : List Int) : lenB (recB s ++ t) = s.size := by
  show (((s.size / 256 : Nat) : Int)).toNat * 256 + (((s.size % 256 : Nat) : Int)).toNat = s.size
  omega
theorem recB_last (s : ByteArray) (t : List Int) : (recB s ++ t).getD (s.size + 2) 0 = 1 := by
  have h : (recB s)[s.size + 2]? = some 1 := by
    show (((s.size / 256 : Nat) : Int) :: ((s.size % 256 : Nat) : Int) :: (byt s ++ [1]))[s.size + 2]? = _
    rw [List.getElem?_cons_succ, List.getElem?_cons_succ, List.getElem?_append_right (by rw [byt_length]; omega), byt_length]
    simp
  rw [List.getD_eq_getElem?_getD, List.getElem?_append_left (by rw [recB_len]; omega), h]
  rfl
theorem byt_strOf {xs : List Int} (h : Byts xs) : byt (strOfNums xs) = xs := by
  have e : (strOfNums xs).data.toList = xs.map fun n => UInt8.ofNat n.toNat := by simp [strOfNums]
  unfold byt
  rw [e, List.map_map]
  conv => rhs; rw [← List.map_id xs]
  apply List.map_congr_left
  intro x hx
  have := h x hx
  unfold Byt at this
  simp only [Function.comp, id]
  rw [UInt8.toNat_ofNat']
  omega
theorem byt_isByts (s : ByteArray) : Byts (byt s) := by
  intro x hx
  simp only [byt, List.mem_map] at hx
  obtain ⟨b, _, rfl⟩ := hx
  exact ⟨by omega, by have := b.toNat_lt; omega⟩
theorem strOf_byt (s : ByteArray) : strOfNums (byt s) = s := byt_inj (byt_strOf (byt_isByts s))
theorem recB_txt (s : ByteArray) (t : List Int) : strOfNums (((recB s ++ t).drop 2).take s.size) = s := by
  have e : ((recB s ++ t).drop 2).take s.size = byt s := by
    show ((byt s ++ [1]) ++ t).take s.size = byt s
    rw [List.append_assoc, List.take_append_of_le_length (by rw [byt_length]; omega), List.take_of_length_le (by rw [byt_length]; omega)]
  rw [e, strOf_byt]
/-- one whole record -/
theorem scan_one {s : ByteArray} (hs : s.size ≤ 4096) (f : Nat) (t : List Int) {sz : Nat} (hz : sz + s.size + 16 ≤ 524288) : scanF (f + 1) (recB s ++ t) sz = (s :: (scanF f t (sz + s.size + 16)).1, s.size + 3 + (scanF f t (sz + s.size + 16)).2) := by
  have hd : (recB s ++ t).drop (s.size + 3) = t := by
    rw [← recB_len, List.drop_left]
  rw [scanF, lenB_rec, if_neg (by rw [List.length_append, recB_len]; omega), if_neg (by rw [List.length_append, recB_len]; omega), if_neg (by rw [recB_last]; decide), if_neg (by omega), if_neg (by omega), hd, recB_txt]
theorem scanF_nil (f sz : Nat) : scanF f [] sz = ([], 0) := by
  cases f with
  | zero => rfl
  | succ f => rw [scanF, if_pos (by simp)]
/-- all that was written -/
theorem scan_all : ∀ (l : List ByteArray) (f sz : Nat), l.length ≤ f → (∀ s ∈ l, s.size ≤ 4096) → sz + sizeL l ≤ 524288 → scanF f (recsB l) sz = (l, (recsB l).length)
  | [], f, sz, _, _, _ => scanF_nil f sz
  | s :: l, 0, _, h, _, _ => by simp at h
  | s :: l, f + 1, sz, h, hs, hz => by
    simp only [sizeL] at hz
    rw [recsB, scan_one (hs s (List.mem_cons_self ..)) f _ (by omega), scan_all l f _ (by simpa using h) (fun x hx => hs x (List.mem_cons_of_mem _ hx)) (by omega), List.length_append, recB_len]
theorem len_recs : ∀ (l : List ByteArray), l.length ≤ (recsB l).length
  | [] => Nat.le_refl _
  | s :: l => by
    have := len_recs l
    simp only [recsB, List.length_append, List.length_cons, recB_len]
    omega
theorem scanB_all {l : List ByteArray} (hs : ∀ s ∈ l, s.size ≤ 4096) (hz : sizeL l ≤ 524288) : scanB (recsB l) = (l, (recsB l).length) :=
  scan_all l _ 0 (by have := len_recs l; omega) hs (by omega)

/-- what is left of it, when all from the byte k on is zero -/
def tornK (b : List Int) (k : Nat) : List Int := b.take k ++ List.replicate (b.length - k) 0
theorem tornK_len (b : List Int) (k : Nat) : (tornK b k).length = b.length := by simp [tornK]; omega
theorem tornK_hi {b : List Int} {k i : Nat} (h : k ≤ i) : (tornK b k).getD i 0 = 0 := by
  rw [tornK, List.getD_eq_getElem?_getD]
  rcases Nat.lt_or_ge i (b.take k ++ List.replicate (b.length - k) (0 : Int)).length with hl | hl
  · rw [List.getElem?_append_right (by simp; omega)]
    rw [List.getElem?_replicate]
    split <;> rfl
  · rw [List.getElem?_eq_none hl]; rfl
theorem tornK_lo {b : List Int} {k i : Nat} (h : i < k) : (tornK b k).getD i 0 = b.getD i 0 := by
  rw [tornK, List.getD_eq_getElem?_getD, List.getD_eq_getElem?_getD]
  rcases Nat.lt_or_ge i b.length with hl | hl
  · rw [List.getElem?_append_left (by simp; omega), List.getElem?_take, if_pos h]
  · rw [List.getElem?_eq_none hl, List.getElem?_eq_none (by simp; omega)]
theorem tornK_app {a b : List Int} {k : Nat} (h : a.length ≤ k) : tornK (a ++ b) k = a ++ tornK b (k - a.length) := by
  rw [tornK, tornK, List.take_append, List.take_of_length_le h, List.append_assoc, List.length_append]
  congr 3
  omega
/-- a record of which the end is gone is not read -/
theorem scan_torn {s : ByteArray} (t : List Int) (f sz k : Nat) (hk : k < s.size + 3) : scanF f (tornK (recB s ++ t) k) sz = ([], 0) := by
  cases f with
  | zero => rfl
  | succ f =>
    rw [scanF]
    split
    · rfl
    · split
      · rfl
      · rw [if_pos]
        have h0 : k ≤ lenB (tornK (recB s ++ t) k) + 2 := by
          rcases Nat.lt_or_ge k 3 with h3 | h3
          · omega
          · have e : lenB (tornK (recB s ++ t) k) = lenB (recB s ++ t) := by
              rw [lenB, lenB, tornK_lo (by omega), tornK_lo (by omega)]
            rw [e, lenB_rec]
            omega
        rw [tornK_hi h0]
        decide
/-- what is read of records that were torn -/
theorem scan_tornK : ∀ (l : List ByteArray) (f sz k : Nat), l.length ≤ f → (∀ s ∈ l, s.size ≤ 4096) → sz + sizeL l ≤ 524288 →
    ∃ j, j ≤ l.length ∧ scanF f (tornK (recsB l) k) sz = (l.take j, (recsB (l.take j)).length) ∧ ∀ i, i ≤ l.length → (recsB (l.take i)).length ≤ k → i ≤ j
  | [], f, sz, k, _, _, _ => ⟨0, Nat.le_refl _, by
      have e : tornK (recsB []) k = [] := List.eq_nil_of_length_eq_zero (by rw [tornK_len]; rfl)
      rw [e, scanF_nil]
      rfl, fun i hi _ => hi⟩
  | s :: l, 0, _, _, h, _, _ => by simp at h
  | s :: l, f + 1, sz, k, h, hs, hz => by
    simp only [sizeL] at hz
    rcases Nat.lt_or_ge k (s.size + 3) with hk | hk
    · refine ⟨0, Nat.zero_le _, ?_, fun i hi hl => ?_⟩
      · rw [recsB, scan_torn _ _ _ _ hk]
        rfl
      · cases i with
        | zero => exact Nat.le_refl _
        | succ i =>
          rw [List.take_succ_cons, recsB, List.length_append, recB_len] at hl
          omega
    · obtain ⟨j, h1, h2, h3⟩ := scan_tornK l f (sz + s.size + 16) (k - (s.size + 3)) (by simpa using h) (fun x hx => hs x (List.mem_cons_of_mem _ hx)) (by omega)
      refine ⟨j + 1, by simp; omega, ?_, fun i hi hl => ?_⟩
      · rw [recsB, tornK_app (by rw [recB_len]; exact hk), recB_len, scan_one (hs s (List.mem_cons_self ..)) f _ (by omega), h2, List.take_succ_cons, recsB, List.length_append, recB_len]
      · cases i with
        | zero => omega
        | succ i =>
          rw [List.take_succ_cons, recsB, List.length_append, recB_len] at hl
          have := h3 i (by simpa using hi) (by omega)
          omega

/-- what is read is what was written -/
theorem strOf_size (l : List Int) : (strOfNums l).size = l.length := by
  show (strOfNums l).data.size = _
  simp [strOfNums]
theorem recB_of2 {b0 b1 : Int} {r : List Int} (hb : Byts (b0 :: b1 :: r)) {n : Nat} (hn : b0.toNat * 256 + b1.toNat = n) (hl : n + 1 ≤ r.length) (h1 : r[n]? = some 1) : b0 :: b1 :: r.take (n + 1) = recB (strOfNums (r.take n)) := by
  have q0 := hb.head
  have q1 := hb.tail.head
  have qr := hb.tail.tail
  unfold Byt at q0 q1
  have hsz : (strOfNums (r.take n)).size = n := by rw [strOf_size, List.length_take]; omega
  have e0 : b0 = ((n / 256 : Nat) : Int) := by omega
  have e1 : b1 = ((n % 256 : Nat) : Int) := by omega
  rw [List.take_add_one, h1, recB, hsz, byt_strOf (qr.take n), ← e0, ← e1]
  rfl
theorem recB_of {b : List Int} (hb : Byts b) {n : Nat} (hn : lenB b = n) (hl : n + 3 ≤ b.length) (h1 : b.getD (n + 2) 0 = 1) : b.take (n + 3) = recB (strOfNums ((b.drop 2).take n)) := by
  obtain ⟨b0, b1, r, rfl⟩ : ∃ b0 b1 r, b = b0 :: b1 :: r := by
    cases b with
    | nil => simp at hl
    | cons b0 b => cases b with
      | nil => simp at hl
      | cons b1 r => exact ⟨b0, b1, r, rfl⟩
  simp only [List.length_cons] at hl
  have hr : n < r.length := by omega
  have h2 : r[n]? = some 1 := by
    rw [List.getD_eq_getElem?_getD, List.getElem?_cons_succ, List.getElem?_cons_succ, List.getElem?_eq_getElem hr] at h1
    rw [List.getElem?_eq_getElem hr]
    exact congrArg some h1
  rw [List.take_succ_cons, List.take_succ_cons]
  exact recB_of2 hb hn (by omega) h2
theorem scan_back : ∀ (f : Nat) (b : List Int) (sz : Nat), Byts b → sz ≤ 524288 → ∃ l n, scanF f b sz = (l, n) ∧ n ≤ b.length ∧ b.take n = recsB l ∧ (∀ s ∈ l, s.size ≤ 4096) ∧ sz + sizeL l ≤ 524288
  | 0, b, sz, _, hz => ⟨[], 0, rfl, Nat.zero_le _, rfl, fun s hs => by simp at hs, by simpa [sizeL] using hz⟩
  | f + 1, b, sz, hb, hz => by
    have nil : ∃ l n, (([], 0) : List ByteArray × Nat) = (l, n) ∧ n ≤ b.length ∧ b.take n = recsB l ∧ (∀ s ∈ l, s.size ≤ 4096) ∧ sz + sizeL l ≤ 524288 := ⟨[], 0, rfl, Nat.zero_le _, rfl, fun s hs => by simp at hs, by simpa [sizeL] using hz⟩
    rw [scanF]
    split
    · exact nil
    · split
      · exact nil
      · split
        · exact nil
        · split
          · exact nil
          · split
            · exact nil
            · rename_i h3 hl h1 h4 h5
              obtain ⟨n, hn⟩ : ∃ n, lenB b = n := ⟨_, rfl⟩
              rw [hn] at hl h1 h4 h5 ⊢
              obtain ⟨l, m, e, hm, ht, hs, hz'⟩ := scan_back f (b.drop (n + 3)) (sz + n + 16) (hb.drop _) (by omega)
              have hsz : (strOfNums ((b.drop 2).take n)).size = n := by rw [strOf_size, List.length_take, List.length_drop]; omega
              refine ⟨_, _, by rw [e], ?_, ?_, ?_, ?_⟩
              · rw [List.length_drop] at hm
                show n + 3 + m ≤ _
                omega
              · show b.take (n + 3 + m) = recsB (_ :: l)
                rw [List.take_add, ht, recsB, recB_of hb hn (by omega) (by simpa using h1)]
              · intro x hx
                rcases List.mem_cons.1 hx with rfl | hx
                · omega
                · exact hs x hx
              · simp only [sizeL]
                omega

end Go.Proofs.Ytaccmjgnggepjaa
/-
  A disk of at most the two files of a log: what each call does to it.
-/
namespace Go.Proofs.Ytaccmjgnggepjaa

theorem nLog_ok : okName nLog = true := by decide +kernel
theorem nNew_ok : okName nNew = true := by decide +kernel
theorem lt_ln : ltN nLog nNew = true := by decide +kernel
theorem lt_nl : ltN nNew nLog = false := by decide +kernel
theorem ne_ln : (nLog = nNew) = False := by
  rw [eq_iff_iff, iff_false]
  intro h
  have := congrArg ByteArray.size h
  revert this
  decide
theorem ne_nl : (nNew = nLog) = False := by
  rw [eq_iff_iff, iff_false]
  intro h
  have := congrArg ByteArray.size h
  revert this
  decide
def fL (x : List Int × List Int) : PF := ⟨nLog, x.1, x.2⟩
def fN (x : List Int × List Int) : PF := ⟨nNew, x.1, x.2⟩
def twoF (a b : Option (List Int × List Int)) : List PF := (a.map fL).toList ++ (b.map fN).toList

def readO : Option (List Int × List Int) → List Int × Int
  | none => ([], 3)
  | some x => (x.1, 0)
section
variable {D : PD} {a b : Option (List Int × List Int)}
theorem pos_log (h : D.L = twoF a b) : D.pos nLog = 0 := by
  cases a <;> cases b <;> simp [PD.pos, namesF, h, twoF, posN, fL, fN, ltN_irrefl, lt_nl]
theorem has_log (h : D.L = twoF a b) : D.has nLog = a.isSome := by
  cases a <;> cases b <;> simp [PD.has, hasN, namesF, h, twoF, posN, fL, fN, ltN_irrefl, lt_nl, ne_nl]
theorem pos_new (h : D.L = twoF a b) : D.pos nNew = (a.map fL).toList.length := by
  cases a <;> cases b <;> simp [PD.pos, namesF, h, twoF, posN, fL, fN, ltN_irrefl, lt_ln]
theorem has_new (h : D.L = twoF a b) : D.has nNew = b.isSome := by
  cases a <;> cases b <;> simp [PD.has, hasN, namesF, h, twoF, posN, fL, fN, ltN_irrefl, lt_ln]
theorem at_log (h : D.L = twoF a b) : D.fileAt nLog = a.map fL := by
  rw [PD.fileAt, has_log h, pos_log h, h]
  cases a <;> cases b <;> simp [twoF]
theorem at_new (h : D.L = twoF a b) : D.fileAt nNew = b.map fN := by
  rw [PD.fileAt, has_new h, pos_new h, h]
  cases a <;> cases b <;> simp [twoF]
theorem rem_off (ho : D.tick.off = true) : dRemove D nNew = (D.tick, 9) := by
  rw [dRemove, dOpen, if_neg (by rw [nNew_ok]; decide), if_pos ho]
theorem rem_on (h : D.L = twoF a b) (ho : D.tick.off = false) : ∃ R e, dRemove D nNew = (R, e) ∧ (e = 0 ∨ e = 3) ∧ R.L = twoF a none ∧ R.off = false ∧ R.left = D.tick.left := by
  rw [dRemove, dOpen, if_neg (by rw [nNew_ok]; decide), if_neg (by rw [ho]; decide), at_new h]
  cases b with
  | none => exact ⟨_, _, rfl, .inr rfl, (tick_L D).trans h, ho, rfl⟩
  | some x =>
    refine ⟨_, _, rfl, .inl rfl, ?_, ho, rfl⟩
    show D.L.take (D.pos nNew) ++ D.L.drop (D.pos nNew + 1) = _
    rw [pos_new h, h]
    cases a <;> simp [twoF]
theorem read_log (h : D.L = twoF a b) (ho : D.off = false) : dRead D nLog = readO a := by
  rw [dRead, if_neg (by rw [nLog_ok]; decide), if_neg (by rw [ho]; decide), has_log h]
  cases a with
  | none => rfl
  | some x =>
    show (if true = true then (D.visAt nLog, (0 : Int)) else ([], 3)) = _
    rw [if_pos rfl, PD.visAt, pos_log h, h]
    rfl
theorem sync_off {s : ByteArray} (hs : okName s = true) (ho : D.tick.off = true) : dSync D s = (D.tick, 9) := by
  rw [dSync, dOpen, if_neg (by rw [hs]; decide), if_pos ho]
theorem sync_none (h : D.L = twoF none b) (ho : D.tick.off = false) : dSync D nLog = (D.tick, 3) := by
  rw [dSync, dOpen, if_neg (by rw [nLog_ok]; decide), if_neg (by rw [ho]; decide), at_log h]
  rfl
theorem sync_log {x : List Int × List Int} (h : D.L = twoF (some x) b) (ho : D.tick.off = false) : dSync D nLog = (D.with (twoF (some (x.1, x.1)) b), 0) := by
  rw [dSync, dOpen, if_neg (by rw [nLog_ok]; decide), if_neg (by rw [ho]; decide), at_log h]
  show (D.with (D.L.set (D.pos nLog) _), (0 : Int)) = _
  rw [pos_log h, h]
  rfl
theorem sync_new {x : List Int × List Int} (h : D.L = twoF a (some x)) (ho : D.tick.off = false) : dSync D nNew = (D.with (twoF a (some (x.1, x.1))), 0) := by
  rw [dSync, dOpen, if_neg (by rw [nNew_ok]; decide), if_neg (by rw [ho]; decide), at_new h]
  show (D.with (D.L.set (D.pos nNew) _), (0 : Int)) = _
  rw [pos_new h, h]
  cases a <;> rfl
theorem cut_off {n : Nat} (ho : D.tick.off = true) : dCut D nLog n = (D.tick, 9) := by
  rw [dCut, if_neg (by omega), dOpen, if_neg (by rw [nLog_ok]; decide), if_pos ho]
theorem cut_log {n : Nat} {x : List Int × List Int} (h : D.L = twoF (some x) b) (ho : D.tick.off = false) (hn : n ≤ x.1.length) : dCut D nLog n = (D.with (twoF (some (x.1.take n, x.2)) b), 0) := by
  rw [dCut, if_neg (by omega), dOpen, if_neg (by rw [nLog_ok]; decide), if_neg (by rw [ho]; decide), at_log h]
  show (if ((fL x).vis.length : Int) < (n : Int) then _ else _) = _
  rw [if_neg (by show ¬ ((x.1.length : Int) < (n : Int)); omega), pos_log h, h]
  rfl
theorem app_off {s : ByteArray} {zs : List Int} (hs : okName s = true) (ho : D.tick.off = true) : dAppend D s zs = (D.tick, 9) := by
  rw [dAppend, if_neg (by rw [hs]; decide), if_pos ho]
theorem two_len : (twoF a b).length ≤ 2 := by cases a <;> cases b <;> simp [twoF]
theorem app_log {zs : List Int} (h : D.L = twoF a b) (ho : D.tick.off = false) (hz : zs.length + ((a.map fun x => x.1.length).getD 0) ≤ 1048576) : dAppend D nLog zs = (D.with (twoF (some ((a.map fun x => x.1).getD [] ++ zs, (a.map fun x => x.2).getD [])) b), 0) := by
  have hl := two_len (a := a) (b := b)
  have hlen : D.lenAt nLog = (a.map fun x => x.1.length).getD 0 := by
    rw [PD.lenAt, at_log h]
    cases a <;> rfl
  rw [dAppend, if_neg (by rw [nLog_ok]; decide), if_neg (by rw [ho]; decide), hlen, if_neg (by omega), at_log h]
  cases a with
  | none =>
    show (if D.L.length = 16 then _ else _) = _
    rw [if_neg (by rw [h]; omega), pos_log h, h]
    rfl
  | some x =>
    show (D.with (D.L.set (D.pos nLog) _), (0 : Int)) = _
    rw [pos_log h, h]
    rfl
theorem app_newf {zs : List Int} (h : D.L = twoF a none) (ho : D.tick.off = false) (hz : zs.length ≤ 1048576) : dAppend D nNew zs = (D.with (twoF a (some (zs, []))), 0) := by
  have hl := two_len (a := a) (b := none)
  have hlen : D.lenAt nNew = 0 := by
    rw [PD.lenAt, at_new h]
    rfl
  rw [dAppend, if_neg (by rw [nNew_ok]; decide), if_neg (by rw [ho]; decide), hlen, if_neg (by omega), at_new h]
  show (if D.L.length = 16 then _ else _) = _
  rw [if_neg (by rw [h]; omega), pos_new h, h]
  cases a <;> rfl
theorem ren_off (ho : D.tick.off = true) : dRename D nNew nLog = (D.tick, 9) := by
  rw [dRename, if_neg (by rw [nLog_ok]; decide), dOpen, if_neg (by rw [nNew_ok]; decide), if_pos ho]
theorem ren_new {x : List Int × List Int} (h : D.L = twoF a (some x)) (ho : D.tick.off = false) : dRename D nNew nLog = (D.with (twoF (some x) none), 0) := by
  rw [dRename, if_neg (by rw [nLog_ok]; decide), dOpen, if_neg (by rw [nNew_ok]; decide), if_neg (by rw [ho]; decide), at_new h]
  show (D.with (putL (D.L.take (D.pos nNew) ++ D.L.drop (D.pos nNew + 1)) ⟨nLog, x.1, x.2⟩), (0 : Int)) = _
  rw [pos_new h, h]
  have e : putL ((twoF a (some x)).take (a.map fL).toList.length ++ (twoF a (some x)).drop ((a.map fL).toList.length + 1)) ⟨nLog, x.1, x.2⟩ = twoF (some x) none := by
    cases a with
    | none => rfl
    | some y =>
      have e1 : (twoF (some y) (some x)).take ((some y).map fL).toList.length ++ (twoF (some y) (some x)).drop (((some y).map fL).toList.length + 1) = [fL y] := rfl
      rw [e1, putL]
      have e2 : posN (namesF [fL y]) nLog = 0 := by simp [namesF, posN, fL, ltN_irrefl]
      have e3 : hasN (namesF [fL y]) nLog = true := by simp [hasN, namesF, posN, fL, ltN_irrefl]
      show (if hasN (namesF [fL y]) nLog = true then [fL y].set (posN (namesF [fL y]) nLog) _ else _) = _
      rw [if_pos e3, e2]
      rfl
  rw [e]
/-- behind a crash -/
def CrashOf (a a' : Option (List Int × List Int)) : Prop := (a = none ∧ a' = none) ∨ ∃ v d p, a = some (v, d) ∧ a' = some ((if v = d then d else outl v d p), (if v = d then d else outl v d p))
theorem crash_two (a b : Option (List Int × List Int)) (ps : List Int) : ∃ a' b', CrashOf a a' ∧ (crashL (twoF a b) ps).map mkPF = twoF a' b' := by
  have hb : ∀ qs, ∃ b' : Option (List Int × List Int), (crashL (b.map fN).toList qs).map mkPF = (b'.map fN).toList := fun qs => by
    cases b with
    | none => exact ⟨none, rfl⟩
    | some x =>
      obtain ⟨v, d⟩ := x
      by_cases h : v = d
      · refine ⟨some (d, d), ?_⟩
        show (if v = d then _ else _ : List (ByteArray × List Int)).map mkPF = _
        rw [if_pos h]
        rfl
      · refine ⟨some (outl v d (qs.headD 0), outl v d (qs.headD 0)), ?_⟩
        show (if v = d then _ else _ : List (ByteArray × List Int)).map mkPF = _
        rw [if_neg h]
        rfl
  cases a with
  | none =>
    obtain ⟨b', h⟩ := hb ps
    exact ⟨none, b', .inl ⟨rfl, rfl⟩, h⟩
  | some x =>
    obtain ⟨v, d⟩ := x
    by_cases h : v = d
    · obtain ⟨b', hb'⟩ := hb ps
      refine ⟨some (d, d), b', .inr ⟨v, d, 0, rfl, by rw [if_pos h]⟩, ?_⟩
      show (if v = d then ((nLog, d) :: crashL (b.map fN).toList ps) else _ : List (ByteArray × List Int)).map mkPF = _
      rw [if_pos h, List.map_cons, hb']
      rfl
    · obtain ⟨b', hb'⟩ := hb ps.tail
      refine ⟨some (outl v d (ps.headD 0), outl v d (ps.headD 0)), b', .inr ⟨v, d, ps.headD 0, rfl, by rw [if_neg h]⟩, ?_⟩
      show (if v = d then _ else ((nLog, outl v d (ps.headD 0)) :: crashL (b.map fN).toList ps.tail) : List (ByteArray × List Int)).map mkPF = _
      rw [if_neg h, List.map_cons, hb']
      rfl
end

/-- the power is on for good -/
def OnD (D : PD) : Prop := D.off = false ∧ D.left = 0
theorem OnD.tick {D : PD} (h : OnD D) : D.tick.off = false ∧ D.tick.left = 0 := by
  unfold PD.tick
  rw [if_neg (by rw [h.1]; decide), if_pos h.2]
  exact h
theorem with_L (D : PD) (L : List PF) : (D.with L).L = L := rfl
theorem with_off (D : PD) (L : List PF) : (D.with L).off = D.tick.off := rfl
theorem with_left (D : PD) (L : List PF) : (D.with L).left = D.tick.left := rfl

end Go.Proofs.Ytaccmjgnggepjaa
/-
  What package log must do for the statements wherever the power goes.
-/
namespace Go.Proofs.Ytaccmjgnggepjaa
open Go.RowKit

def bX : ByteArray := ⟨#[120]⟩
/-- what package log must do for the statements wherever the power goes -/
structure LogW (K : LogK) where
  Run : K.LS → List (List ByteArray) → Prop
  Gone : PD → List (List ByteArray) → Prop
  start : ∀ D, (D = dNew [] ∨ ∃ n : Int, 1 ≤ n ∧ n ≤ 40 ∧ D = dOff (dNew []) n) → (∃ S, K.openL D = (some S, 0, K.dsk S) ∧ Run S [[]] ∧ K.recs S = []) ∨ ∃ D', K.openL D = (none, 9, D') ∧ Gone D' [[]]
  act : ∀ {S C} (m : Nat) (a : ActG), m < 7 → Run S C →
    ((K.act S m a).2 = (nextG (K.recs S) m a).2 ∧ K.recs (K.act S m a).1 = (nextG (K.recs S) m a).1 ∧ Run (K.act S m a).1 ((if (nextG (K.recs S) m a).2 = 0 ∧ 4 ≤ m then [] else C) ++ [(nextG (K.recs S) m a).1])) ∨
    ((K.act S m a).2 = 9 ∧ K.recs (K.act S m a).1 = K.recs S ∧ (K.sync (K.act S m a).1).2 = 9 ∧ (K.app (K.sync (K.act S m a).1).1 bX).2 = 9 ∧ Gone (K.dsk (K.app (K.sync (K.act S m a).1).1 bX).1) (C ++ [(nextG (K.recs S) m a).1]))
  rest : ∀ {S C}, Run S C → Gone (K.dsk S) C
  again : ∀ {D C}, Gone D C → ∀ ps, ∃ S, K.openL (dNew (dCrash D ps)) = (some S, 0, K.dsk S) ∧ K.recs S ∈ C ∧ Gone (K.dsk S) [K.recs S]
  againOff : ∀ {D C}, Gone D C → ∀ ps (n : Int), 1 ≤ n → n ≤ 10 → (∃ S, K.openL (dOff (dNew (dCrash D ps)) n) = (some S, 0, K.dsk S) ∧ K.recs S ∈ C ∧ Gone (K.dsk S) [K.recs S]) ∨ ∃ D', K.openL (dOff (dNew (dCrash D ps)) n) = (none, 9, D') ∧ Gone D' C
theorem nextG_err (l : List ByteArray) (m : Nat) (a : ActG) : (nextG l m a).2 = 0 ∨ (nextG l m a).2 = 1 ∨ (nextG l m a).2 = 8 := by
  unfold nextG
  (repeat' split) <;> simp

end Go.Proofs.Ytaccmjgnggepjaa
/-
  What a log tells behind a crash is what it told behind some call: on plain data.
-/
namespace Go.Proofs.Ytaccmjgnggepjaa

theorem nz9 {x : PD} : ¬ ((x, (9 : Int)).2 = 0) := by show ¬ ((9 : Int) = 0); decide
theorem nz93 {x : PD} : ¬ ((x, (9 : Int)).2 = 3) := by show ¬ ((9 : Int) = 3); decide
theorem nz0 {x : PD} : ¬ ((x, (0 : Int)).2 ≠ 0) := fun h => h rfl
abbrev CC := List (List ByteArray)
def Few (l : List ByteArray) : Prop := sizeL l ≤ 524288 ∧ ∀ s ∈ l, s.size ≤ 4096
theorem scanB_back {b : List Int} (hb : Byts b) : (scanB b).2 ≤ b.length ∧ b.take (scanB b).2 = recsB (scanB b).1 ∧ Few (scanB b).1 := by
  obtain ⟨l, n, e, h1, h2, h3, h4⟩ := scan_back (b.length + 1) b 0 hb (by omega)
  have e2 : scanB b = (l, n) := e
  rw [e2]
  exact ⟨h1, h2, by show sizeL l ≤ _; omega, h3⟩
theorem scanB_few {l : List ByteArray} (h : Few l) : (scanB (recsB l)).1 = l := by rw [scanB_all h.2 h.1]

/-! ### what a crash leaves of what was written -/
theorem getD_map_range (n : Nat) (f : Nat → Int) (i : Nat) (h : i < n) : ((List.range n).map f)[i]? = some (f i) := by
  rw [List.getElem?_map, List.getElem?_range h]
  rfl
theorem torn_tornK {v : List Int} {e : Nat} (q : Int) : ∃ k, e ≤ k ∧ tornB v (v.take e) q = tornK v k := by
  obtain ⟨K, hK⟩ : ∃ K, (q % (((max v.length (v.take e).length + 31) / 32 + 1 : Nat) : Int)).toNat * 32 = K := ⟨_, rfl⟩
  refine ⟨max e K, by omega, ?_⟩
  rw [tornB, hK]
  apply List.ext_getElem?
  intro i
  rcases Nat.lt_or_ge i v.length with hi | hi
  · rw [getD_map_range _ _ _ hi]
    have hk : (tornK v (max e K))[i]? = some ((tornK v (max e K)).getD i 0) := by
      rw [List.getD_eq_getElem?_getD, List.getElem?_eq_getElem (by rw [tornK_len]; exact hi)]
      rfl
    rw [hk]
    congr 1
    by_cases h1 : i < K
    · rw [if_pos h1, tornK_lo (by omega)]
    · rw [if_neg h1]
      by_cases h2 : i < e
      · rw [tornK_lo (by omega), List.getD_eq_getElem?_getD, List.getD_eq_getElem?_getD, List.getElem?_take, if_pos h2]
      · rw [tornK_hi (by omega), List.getD_eq_getElem?_getD, List.getElem?_take, if_neg h2]
        rfl
  · rw [List.getElem?_eq_none (by simpa using hi), List.getElem?_eq_none (by rw [tornK_len]; exact hi)]
theorem recs_prefix (l : List ByteArray) (j : Nat) : recsB (l.take j) = (recsB l).take (recsB (l.take j)).length ∧ (recsB (l.take j)).length ≤ (recsB l).length := by
  have e : recsB l = recsB (l.take j) ++ recsB (l.drop j) := by rw [← recsB_append, List.take_append_drop]
  constructor
  · conv => rhs; rw [e]
    rw [List.take_left]
  · rw [e, List.length_append]
    omega
theorem few_take {l : List ByteArray} (h : Few l) (j : Nat) : Few (l.take j) := by
  have e : sizeL l = sizeL (l.take j) + sizeL (l.drop j) := by rw [← sizeL_append, List.take_append_drop]
  exact ⟨by have := h.1; omega, fun s hs => h.2 s (List.mem_of_mem_take hs)⟩
theorem outl_scan {l : List ByteArray} (h : Few l) {j : Nat} (hj : j ≤ l.length) (p : Int) : ∃ i, j ≤ i ∧ i ≤ l.length ∧ (scanB (outl (recsB l) (recsB (l.take j)) p)).1 = l.take i := by
  unfold outl
  split
  · exact ⟨j, Nat.le_refl _, hj, scanB_few (few_take h j)⟩
  · split
    · exact ⟨l.length, hj, Nat.le_refl _, by rw [scanB_few h, List.take_length]⟩
    · obtain ⟨hp1, hp2⟩ := recs_prefix l j
      obtain ⟨k, hk, e⟩ := torn_tornK (v := recsB l) (e := (recsB (l.take j)).length) (p / 3)
      rw [← hp1] at e
      rw [e, scanB, tornK_len]
      obtain ⟨i, h1, h2, h3⟩ := scan_tornK l ((recsB l).length + 1) 0 k (by have := len_recs l; omega) h.2 (by have := h.1; omega)
      exact ⟨i, h3 j hj hk, h1, by rw [h2]⟩
theorem outl_cut (x : List Int) (n : Nat) (p : Int) : outl (x.take n) x p = x ∨ outl (x.take n) x p = x.take n := by
  unfold outl
  split
  · exact .inl rfl
  · split
    · exact .inr rfl
    · right
      rw [tornB]
      apply List.ext_getElem?
      intro i
      rcases Nat.lt_or_ge i (x.take n).length with hi | hi
      · rw [getD_map_range _ _ _ hi, List.getElem?_eq_getElem hi]
        have h0 : (x.take n).getD i 0 = (x.take n)[i] := by rw [List.getD_eq_getElem?_getD, List.getElem?_eq_getElem hi]; rfl
        have h1 : x.getD i 0 = (x.take n)[i] := by
          rw [← h0, List.getD_eq_getElem?_getD, List.getD_eq_getElem?_getD, List.getElem?_take, if_pos (by rw [List.length_take] at hi; omega)]
        rw [h0, h1]
        split <;> rfl
      · rw [List.getElem?_eq_none (by simpa using hi), List.getElem?_eq_none hi]

/-! ### the states -/
def GoodC (v d : List Int) (C : CC) : Prop := Byts v ∧ Byts d ∧ ∀ p, (scanB (if v = d then d else outl v d p)).1 ∈ C
def GoneG (D : PD) (C : CC) : Prop := ∃ a b, D.L = twoF a b ∧ (a = none → [] ∈ C) ∧ ∀ v d, a = some (v, d) → GoodC v d C
def RunG (S : LS10) (C : CC) : Prop := S.dead = false ∧ S.D.off = false ∧ Few S.L ∧ ∃ a, S.D.L = twoF a none ∧ (a = none → S.L = [] ∧ [] ∈ C) ∧
  ∀ v d, a = some (v, d) → v = recsB S.L ∧ ∃ j, j ≤ S.L.length ∧ d = recsB (S.L.take j) ∧ ∀ i, j ≤ i → i ≤ S.L.length → S.L.take i ∈ C
theorem GoneG.mono {D : PD} {C C' : CC} (h : GoneG D C) (hs : ∀ x ∈ C, x ∈ C') : GoneG D C' := by
  obtain ⟨a, b, h1, h2, h3⟩ := h
  exact ⟨a, b, h1, fun e => hs _ (h2 e), fun v d e => ⟨(h3 v d e).1, (h3 v d e).2.1, fun p => hs _ ((h3 v d e).2.2 p)⟩⟩
theorem GoneG.eqL {D D' : PD} {C : CC} (h : GoneG D C) (e : D'.L = D.L) : GoneG D' C := by
  obtain ⟨a, b, h1, h2, h3⟩ := h
  exact ⟨a, b, e.trans h1, h2, h3⟩
theorem RunG.mono {S : LS10} {C C' : CC} (h : RunG S C) (hs : ∀ x ∈ C, x ∈ C') : RunG S C' := by
  obtain ⟨h1, h2, h3, a, h4, h5, h6⟩ := h
  refine ⟨h1, h2, h3, a, h4, fun e => ⟨(h5 e).1, hs _ (h5 e).2⟩, fun v d e => ?_⟩
  obtain ⟨q1, j, q2, q3, q4⟩ := h6 v d e
  exact ⟨q1, j, q2, q3, fun i hi hl => hs _ (q4 i hi hl)⟩
theorem run_good {l : List ByteArray} (h : Few l) {j : Nat} (hj : j ≤ l.length) {C : CC} (hC : ∀ i, j ≤ i → i ≤ l.length → l.take i ∈ C) : GoodC (recsB l) (recsB (l.take j)) C := by
  refine ⟨recsB_byts h.2, recsB_byts (few_take h j).2, fun p => ?_⟩
  by_cases e : recsB l = recsB (l.take j)
  · rw [if_pos e, scanB_few (few_take h j)]
    exact hC j (Nat.le_refl _) hj
  · rw [if_neg e]
    obtain ⟨i, h1, h2, h3⟩ := outl_scan h hj p
    rw [h3]
    exact hC i h1 h2
theorem RunG.gone {S : LS10} {C : CC} (h : RunG S C) : GoneG S.D C := by
  obtain ⟨_, _, h3, a, h4, h5, h6⟩ := h
  refine ⟨a, none, h4, fun e => (h5 e).2, fun v d e => ?_⟩
  obtain ⟨q1, j, q2, q3, q4⟩ := h6 v d e
  rw [q1, q3]
  exact run_good h3 q2 q4
/-- whole and synced -/
theorem RunG.clean {S : LS10} {C : CC} (h1 : S.dead = false) (h2 : S.D.off = false) (h3 : Few S.L) (h4 : S.D.L = twoF (some (recsB S.L, recsB S.L)) none) (hC : S.L ∈ C) : RunG S C :=
  ⟨h1, h2, h3, _, h4, fun e => (by cases e), fun v d e => by
    cases e
    exact ⟨rfl, S.L.length, Nat.le_refl _, by rw [List.take_length], fun i hi hl => by
      have : i = S.L.length := by omega
      rw [this, List.take_length]
      exact hC⟩⟩
theorem RunG.empty {S : LS10} {C : CC} (h1 : S.dead = false) (h2 : S.D.off = false) (h3 : S.L = []) (h4 : S.D.L = twoF none none) (hC : [] ∈ C) : RunG S C :=
  ⟨h1, h2, by rw [h3]; exact ⟨by decide, fun s hs => by simp at hs⟩, none, h4, fun _ => ⟨h3, hC⟩, fun v d e => by cases e⟩

/-! ### Open -/
theorem sync_two {R : PD} {v d : List Int} {b : Option (List Int × List Int)} (h : R.L = twoF (some (v, d)) b) :
    (∃ C, dSync R nLog = (C, 0) ∧ C.L = twoF (some (v, v)) b ∧ C.off = false ∧ (OnD R → OnD C)) ∨ (dSync R nLog = (R.tick, 9) ∧ ¬ OnD R) := by
  cases ho : R.tick.off with
  | true => exact .inr ⟨sync_off nLog_ok ho, fun hon => by rw [hon.tick.1] at ho; cases ho⟩
  | false => exact .inl ⟨_, sync_log h ho, rfl, ho, fun hon => hon.tick⟩
theorem clean_two {R : PD} {v d : List Int} {n : Nat} (h : R.L = twoF (some (v, d)) none) (hn : n ≤ v.length) :
    (∃ C, cleanG R v.length n = (C, 0) ∧ C.L = twoF (some (v.take n, v.take n)) none ∧ C.off = false ∧ (OnD R → OnD C)) ∨
    (∃ C, cleanG R v.length n = (C, 9) ∧ (C.L = twoF (some (v, d)) none ∨ C.L = twoF (some (v.take n, d)) none) ∧ ¬ OnD R) := by
  unfold cleanG
  by_cases hlt : n < v.length
  · rw [if_pos hlt]
    cases ho : R.tick.off with
    | true =>
      rw [cut_off ho, if_neg nz9]
      exact .inr ⟨_, rfl, .inl ((tick_L R).trans h), fun hon => by rw [hon.tick.1] at ho; cases ho⟩
    | false =>
      rw [cut_log h ho hn, if_pos rfl]
      have hC : (R.with (twoF (some (v.take n, d)) none)).L = twoF (some (v.take n, d)) none := rfl
      have hon : OnD R → OnD (R.with (twoF (some (v.take n, d)) none)) := fun hon => hon.tick
      rcases sync_two hC with ⟨C, h1, h2, h3, h4⟩ | ⟨h1, h2⟩
      · exact .inl ⟨C, h1, h2, h3, fun h => h4 (hon h)⟩
      · exact .inr ⟨_, h1, .inr ((tick_L _).trans hC), fun h => h2 (hon h)⟩
  · rw [if_neg hlt]
    have e : v.take n = v := List.take_of_length_le (by omega)
    rw [e]
    rcases sync_two h with ⟨C, h1, h2, h3, h4⟩ | ⟨h1, h2⟩
    · exact .inl ⟨C, h1, h2, h3, h4⟩
    · exact .inr ⟨_, h1, .inl ((tick_L _).trans h), h2⟩
theorem open_two {D : PD} {a b : Option (List Int × List Int)} (h : D.L = twoF a b) (hb : ∀ v d, a = some (v, d) → Byts v) :
    (∃ S, openG D = (some S, 0, S.D) ∧ S.dead = false ∧ S.D.off = false ∧ (OnD D → OnD S.D) ∧ ((a = none ∧ S.L = [] ∧ S.D.L = twoF none none) ∨ ∃ v d, a = some (v, d) ∧ S.L = (scanB v).1 ∧ S.D.L = twoF (some (v.take (scanB v).2, v.take (scanB v).2)) none)) ∨
    (∃ D', openG D = (none, 9, D') ∧ ¬ OnD D ∧ ∃ a' b', D'.L = twoF a' b' ∧ (a' = a ∨ ∃ v d, a = some (v, d) ∧ a' = some (v.take (scanB v).2, d))) := by
  unfold openG
  cases ho : D.tick.off with
  | true =>
    rw [rem_off ho]
    exact .inr ⟨D.tick, rfl, (fun hon => by rw [hon.tick.1] at ho; cases ho), a, b, (tick_L D).trans h, .inl rfl⟩
  | false =>
    obtain ⟨R, e, h1, h2, h3, h4, h5⟩ := rem_on h ho
    have hon : OnD D → OnD R := fun hon => ⟨h4, by rw [h5]; exact hon.tick.2⟩
    have hne : ¬ (e ≠ 0 ∧ e ≠ 3) := fun hx => by
      rcases h2 with h | h
      · exact hx.1 h
      · exact hx.2 h
    rw [h1]
    simp only [if_neg hne]
    rw [read_log h3 h4]
    cases a with
    | none => exact .inl ⟨⟨R, [], false⟩, rfl, rfl, h4, hon, .inl ⟨rfl, rfl, h3⟩⟩
    | some x =>
      obtain ⟨v, d⟩ := x
      have hv := hb v d rfl
      have hn := (scanB_back hv).1
      have hq : readO (some (v, d)) = (v, 0) := rfl
      rw [hq, if_neg (show ¬ ((v, (0 : Int)).2 = 3) by show ¬ ((0 : Int) = 3); decide), if_neg (show ¬ ((v, (0 : Int)).2 ≠ 0) from fun h => h rfl)]
      rcases clean_two h3 hn with ⟨C, q1, q2, q3, q4⟩ | ⟨C, q1, q2, q3⟩
      · rw [q1]
        exact .inl ⟨⟨C, (scanB v).1, false⟩, rfl, rfl, q3, fun h => q4 (hon h), .inr ⟨v, d, rfl, rfl, q2⟩⟩
      · rw [q1]
        refine .inr ⟨C, rfl, fun h => q3 (hon h), ?_⟩
        rcases q2 with q2 | q2
        · exact ⟨_, _, q2, .inl rfl⟩
        · exact ⟨_, _, q2, .inr ⟨v, d, rfl, rfl⟩⟩

/-- opened behind a crash -/
theorem gone_open {D D0 : PD} {C : CC} (h : GoneG D C) (ps : List Int) (hL : D0.L = (dNew (dCrash D ps)).L) :
    (∃ S, openG D0 = (some S, 0, S.D) ∧ S.L ∈ C ∧ RunG S [S.L] ∧ (OnD D0 → OnD S.D)) ∨ (∃ D', openG D0 = (none, 9, D') ∧ GoneG D' C ∧ ¬ OnD D0) := by
  obtain ⟨a, b, h1, h2, h3⟩ := h
  obtain ⟨a', b', hc, ht⟩ := crash_two a b ps
  have hL0 : D0.L = twoF a' b' := by
    rw [hL]
    show (crashL D.L ps).map mkPF = _
    rw [h1, ht]
  rcases hc with ⟨rfl, rfl⟩ | ⟨v, d, p, rfl, rfl⟩
  · rcases open_two hL0 (fun v d e => by cases e) with ⟨S, q1, q2, q3, q4, q5⟩ | ⟨D', q1, q2, a', b', q3, q4⟩
    · rcases q5 with ⟨_, q5, q6⟩ | ⟨v, d, e, _⟩
      · refine .inl ⟨S, q1, by rw [q5]; exact h2 rfl, ?_, q4⟩
        exact RunG.empty q2 q3 q5 q6 (by rw [q5]; exact List.mem_cons_self ..)
      · cases e
    · refine .inr ⟨D', q1, ⟨a', b', q3, fun _ => h2 rfl, fun v d e => ?_⟩, q2⟩
      rcases q4 with q4 | ⟨v', d', e', _⟩
      · rw [q4] at e; cases e
      · cases e'
  · obtain ⟨g1, g2, g3⟩ := h3 v d rfl
    have g3p := g3 p
    have hx : Byts (if v = d then d else outl v d p) := by
      split
      · exact g2
      · exact outl_byts g1 g2 p
    obtain ⟨x, hxe⟩ : ∃ x, (if v = d then d else outl v d p) = x := ⟨_, rfl⟩
    rw [hxe] at g3p hx hL0
    obtain ⟨k1, k2, k3⟩ := scanB_back hx
    rcases open_two hL0 (fun v' d' e => by cases e; exact hx) with ⟨S, q1, q2, q3, q4, q5⟩ | ⟨D', q1, q2, a', b'', q3, q4⟩
    · rcases q5 with ⟨e, _⟩ | ⟨v', d', e, q5, q6⟩
      · cases e
      · cases e
        rw [k2] at q6
        refine .inl ⟨S, q1, by rw [q5]; exact g3p, ?_, q4⟩
        exact RunG.clean q2 q3 (by rw [q5]; exact k3) (by rw [q5]; exact q6) (List.mem_cons_self ..)
    · refine .inr ⟨D', q1, ⟨a', b'', q3, fun e => ?_, fun v' d' e => ?_⟩, q2⟩
      · rcases q4 with q4 | ⟨_, _, e', q4⟩
        · rw [q4] at e; cases e
        · rw [q4] at e; cases e
      · rcases q4 with q4 | ⟨v2, d2, e', q4⟩
        · rw [q4] at e
          cases e
          exact ⟨hx, hx, fun p => by rw [if_pos rfl]; exact g3p⟩
        · cases e'
          rw [q4] at e
          cases e
          refine ⟨hx.take _, hx, fun p => ?_⟩
          have hall : (scanB (x.take (scanB x).2)).1 = (scanB x).1 := by rw [k2, scanB_few k3]
          split
          · exact g3p
          · rcases outl_cut x (scanB x).2 p with e | e
            · rw [e]; exact g3p
            · rw [e, hall]; exact g3p

/-! ### the calls -/
theorem app_run {S : LS10} {C : CC} (h : RunG S C) (s : ByteArray) (N : List ByteArray × Int) (hN : N = if 4096 < s.size then (S.L, 1) else if 524288 < sizeL S.L + s.size + 16 then (S.L, 8) else (S.L ++ [s], 0)) :
    ((appG S s).2 = N.2 ∧ (appG S s).1.L = N.1 ∧ RunG (appG S s).1 (C ++ [N.1]) ∧ (OnD S.D → OnD (appG S s).1.D)) ∨ (∃ D', appG S s = (⟨D', S.L, true⟩, 9) ∧ GoneG D' C ∧ ¬ OnD S.D) := by
  have hg := h.gone
  have hrun := h
  obtain ⟨h1, h2, h3, a, h4, h5, h6⟩ := h
  unfold appG
  rw [h1, if_neg (by decide)]
  by_cases hb : 4096 < s.size
  · rw [if_pos hb] at hN ⊢
    subst hN
    exact .inl ⟨rfl, rfl, hrun.mono fun x hx => List.mem_append_left _ hx, id⟩
  · rw [if_neg hb] at hN ⊢
    by_cases hf : 524288 < sizeL S.L + s.size + 16
    · rw [if_pos hf] at hN ⊢
      subst hN
      exact .inl ⟨rfl, rfl, hrun.mono fun x hx => List.mem_append_left _ hx, id⟩
    · rw [if_neg hf] at hN ⊢
      subst hN
      cases ho : S.D.tick.off with
      | true =>
        rw [app_off nLog_ok ho, if_pos (by show (9 : Int) ≠ 0; decide)]
        exact .inr ⟨_, rfl, hg.eqL (tick_L _), fun hon => by rw [hon.tick.1] at ho; cases ho⟩
      | false =>
        have hlen := recsB_len S.L
        have hs : (recB s).length = s.size + 3 := recB_len s
        have hfit : (recB s).length + ((a.map fun x => x.1.length).getD 0) ≤ 1048576 := by
          cases a with
          | none => show (recB s).length + 0 ≤ _; omega
          | some x =>
            obtain ⟨v, d⟩ := x
            have := (h6 v d rfl).1
            show (recB s).length + v.length ≤ _
            rw [this]
            omega
        rw [app_log h4 ho hfit, if_neg nz0]
        have hfew : Few (S.L ++ [s]) := by
          refine ⟨by rw [sizeL_append, sizeL_one]; omega, fun x hx => ?_⟩
          rcases List.mem_append.1 hx with hx | hx
          · exact h3.2 x hx
          · rw [List.mem_singleton] at hx
            subst hx
            omega
        refine .inl ⟨rfl, rfl, ⟨rfl, ho, hfew, _, rfl, fun e => (by cases e), fun v d e => ?_⟩, fun hon => hon.tick⟩
        cases e
        cases a with
        | none =>
          obtain ⟨e0, hC⟩ := h5 rfl
          show [] ++ recB s = recsB (S.L ++ [s]) ∧ ∃ j, j ≤ (S.L ++ [s]).length ∧ [] = recsB ((S.L ++ [s]).take j) ∧ ∀ i, j ≤ i → i ≤ (S.L ++ [s]).length → (S.L ++ [s]).take i ∈ C ++ [S.L ++ [s]]
          rw [e0]
          refine ⟨by rw [List.nil_append, List.nil_append, recsB_one], 0, Nat.zero_le _, rfl, fun i _ hi => ?_⟩
          have hi' : i ≤ 1 := hi
          rcases (show i = 0 ∨ i = 1 by omega) with rfl | rfl
          · exact List.mem_append_left _ hC
          · exact List.mem_append_right _ (List.mem_cons_self ..)
        | some x =>
          obtain ⟨v, d⟩ := x
          obtain ⟨q1, j, q2, q3, q4⟩ := h6 v d rfl
          show v ++ recB s = recsB (S.L ++ [s]) ∧ ∃ j, j ≤ (S.L ++ [s]).length ∧ d = recsB ((S.L ++ [s]).take j) ∧ ∀ i, j ≤ i → i ≤ (S.L ++ [s]).length → (S.L ++ [s]).take i ∈ C ++ [S.L ++ [s]]
          refine ⟨by rw [q1, recsB_append, recsB_one], j, by rw [List.length_append]; omega, by rw [List.take_append_of_le_length q2]; exact q3, fun i hi hl => ?_⟩
          rw [List.length_append] at hl
          have hl' : i ≤ S.L.length + 1 := hl
          rcases (show i ≤ S.L.length ∨ i = S.L.length + 1 by omega) with hi2 | hi2
          · rw [List.take_append_of_le_length hi2]
            exact List.mem_append_left _ (q4 i hi hi2)
          · rw [List.take_of_length_le (by rw [List.length_append, hi2]; exact Nat.le_refl _)]
            exact List.mem_append_right _ (List.mem_cons_self ..)
theorem sync_run {S : LS10} {C : CC} (h : RunG S C) :
    ((syncG S).2 = 0 ∧ (syncG S).1.L = S.L ∧ RunG (syncG S).1 [S.L] ∧ (OnD S.D → OnD (syncG S).1.D)) ∨ (∃ D', syncG S = (⟨D', S.L, true⟩, 9) ∧ GoneG D' C ∧ ¬ OnD S.D) := by
  have hg := h.gone
  obtain ⟨h1, h2, h3, a, h4, h5, h6⟩ := h
  unfold syncG
  rw [h1, if_neg (by decide)]
  cases ho : S.D.tick.off with
  | true =>
    rw [sync_off nLog_ok ho, if_neg (by
      rintro (h | ⟨h, _⟩)
      · exact nz9 h
      · exact nz93 h)]
    exact .inr ⟨_, rfl, hg.eqL (tick_L _), fun hon => by rw [hon.tick.1] at ho; cases ho⟩
  | false =>
    cases a with
    | none =>
      obtain ⟨e0, hC⟩ := h5 rfl
      rw [sync_none h4 ho, if_pos (.inr ⟨rfl, e0⟩)]
      exact .inl ⟨rfl, rfl, RunG.empty rfl ho e0 ((tick_L _).trans h4) (by rw [e0]; exact List.mem_cons_self ..), fun hon => hon.tick⟩
    | some x =>
      obtain ⟨v, d⟩ := x
      obtain ⟨q1, _⟩ := h6 v d rfl
      rw [sync_log h4 ho, if_pos (.inl rfl)]
      subst q1
      exact .inl ⟨rfl, rfl, RunG.clean rfl ho h3 rfl (List.mem_cons_self ..), fun hon => hon.tick⟩
theorem reset_run {S : LS10} {C : CC} (h : RunG S C) (l : List ByteArray) (N : List ByteArray × Int) (hN : N = if bigS l = true then (S.L, 1) else if 524288 < sizeL l then (S.L, 8) else (l, 0)) :
    ((resetG S l).2 = N.2 ∧ (resetG S l).1.L = N.1 ∧ RunG (resetG S l).1 ((if N.2 = 0 then [] else C) ++ [N.1]) ∧ (OnD S.D → OnD (resetG S l).1.D)) ∨ (∃ D', resetG S l = (⟨D', S.L, true⟩, 9) ∧ GoneG D' C ∧ ¬ OnD S.D) := by
  have hg := h.gone
  have hrun := h
  obtain ⟨h1, h2, h3, a, h4, h5, h6⟩ := h
  unfold resetG
  rw [h1, if_neg (by decide)]
  by_cases hb : bigS l = true
  · rw [if_pos hb] at hN ⊢
    subst hN
    exact .inl ⟨rfl, rfl, hrun.mono fun x hx => List.mem_append_left _ hx, id⟩
  · rw [if_neg hb] at hN ⊢
    by_cases hf : 524288 < sizeL l
    · rw [if_pos hf] at hN ⊢
      subst hN
      exact .inl ⟨rfl, rfl, hrun.mono fun x hx => List.mem_append_left _ hx, id⟩
    · rw [if_neg hf] at hN ⊢
      subst hN
      have hfew : Few l := ⟨by omega, bigS_no (by simpa using hb)⟩
      have hlen := recsB_len l
      have hgo : ∀ D' : PD, (∃ b, D'.L = twoF a b) → GoneG D' C := fun D' hD => by
        obtain ⟨b, hD⟩ := hD
        refine ⟨a, b, hD, fun e => (h5 e).2, fun v d e => ?_⟩
        obtain ⟨q1, j, q2, q3, q4⟩ := h6 v d e
        rw [q1, q3]
        exact run_good h3 q2 q4
      have hrep : (∃ D', replG S.D (recsB l) = (D', 0) ∧ D'.L = twoF (some (recsB l, recsB l)) none ∧ D'.off = false ∧ (OnD S.D → OnD D')) ∨ (∃ D', replG S.D (recsB l) = (D', 9) ∧ GoneG D' C ∧ ¬ OnD S.D) := by
        unfold replG
        cases ho : S.D.tick.off with
        | true =>
          rw [app_off nNew_ok ho, if_pos (by show (9 : Int) ≠ 0; decide)]
          exact .inr ⟨_, rfl, hg.eqL (tick_L _), fun hon => by rw [hon.tick.1] at ho; cases ho⟩
        | false =>
          rw [app_newf h4 ho (by omega), if_neg nz0]
          obtain ⟨D1, hD1⟩ : ∃ D1, S.D.with (twoF a (some (recsB l, []))) = D1 := ⟨_, rfl⟩
          have hL1 : D1.L = twoF a (some (recsB l, [])) := by rw [← hD1]; rfl
          have hon1 : OnD S.D → OnD D1 := fun hon => by rw [← hD1]; exact hon.tick
          simp only [hD1]
          cases ho1 : D1.tick.off with
          | true =>
            rw [sync_off nNew_ok ho1, if_pos (by show (9 : Int) ≠ 0; decide)]
            exact .inr ⟨_, rfl, hgo _ ⟨_, (tick_L _).trans hL1⟩, fun hon => by rw [(hon1 hon).tick.1] at ho1; cases ho1⟩
          | false =>
            rw [sync_new hL1 ho1, if_neg nz0]
            obtain ⟨D2, hD2⟩ : ∃ D2, D1.with (twoF a (some (recsB l, recsB l))) = D2 := ⟨_, rfl⟩
            have hL2 : D2.L = twoF a (some (recsB l, recsB l)) := by rw [← hD2]; rfl
            have hon2 : OnD S.D → OnD D2 := fun hon => by rw [← hD2]; exact (hon1 hon).tick
            simp only [hD2]
            cases ho2 : D2.tick.off with
            | true =>
              rw [ren_off ho2]
              exact .inr ⟨_, rfl, hgo _ ⟨_, (tick_L _).trans hL2⟩, fun hon => by rw [(hon2 hon).tick.1] at ho2; cases ho2⟩
            | false =>
              rw [ren_new hL2 ho2]
              exact .inl ⟨_, rfl, rfl, ho2, fun hon => (hon2 hon).tick⟩
      rcases hrep with ⟨D', q1, q2, q3, q4⟩ | ⟨D', q1, q2, q3⟩
      · rw [q1, if_neg nz0]
        exact .inl ⟨rfl, rfl, RunG.clean rfl q3 hfew q2 (List.mem_append_right _ (List.mem_cons_self ..)), q4⟩
      · rw [q1, if_pos (by show (9 : Int) ≠ 0; decide)]
        exact .inr ⟨D', rfl, q2, q3⟩

/-- any act -/
theorem act_run {S : LS10} {C : CC} (h : RunG S C) (m : Nat) (a : ActG) :
    ((logK.act S m a).2 = (nextG S.L m a).2 ∧ LS10.L (logK.act S m a).1 = (nextG S.L m a).1 ∧ RunG (logK.act S m a).1 ((if (nextG S.L m a).2 = 0 ∧ (m = 4 ∨ m = 5 ∨ m = 6) then [] else C) ++ [(nextG S.L m a).1]) ∧ (OnD S.D → OnD (LS10.D (logK.act S m a).1))) ∨
    (∃ D', logK.act S m a = (⟨D', S.L, true⟩, 9) ∧ GoneG D' C ∧ ¬ OnD S.D) := by
  unfold LogK.act nextG
  by_cases h4 : m = 4
  · rw [if_pos h4, if_pos h4]
    rcases reset_run h a.ls _ rfl with ⟨q1, q2, q3, q4⟩ | hq
    · refine .inl ⟨q1, q2, ?_, q4⟩
      have e : ∀ x : Int, (x = 0 ∧ (m = 4 ∨ m = 5 ∨ m = 6)) ↔ x = 0 := fun x => ⟨fun h => h.1, fun h => ⟨h, .inl h4⟩⟩
      simp only [e]
      exact q3
    · exact .inr hq
  · rw [if_neg h4, if_neg h4]
    by_cases h5 : m = 5 ∨ m = 6
    · rw [if_pos h5, if_pos h5]
      rcases sync_run h with ⟨q1, q2, q3, q4⟩ | hq
      · refine .inl ⟨q1, q2, ?_, q4⟩
        rw [if_pos ⟨rfl, .inr h5⟩]
        exact q3
      · exact .inr hq
    · rw [if_neg h5, if_neg h5]
      rcases app_run h a.S _ rfl with ⟨q1, q2, q3, q4⟩ | hq
      · refine .inl ⟨q1, q2, ?_, q4⟩
        rw [if_neg (fun hx => by rcases hx.2 with h | h; exact h4 h; exact h5 h)]
        exact q3
      · exact .inr hq

theorem on_new (fs : List (ByteArray × List Int)) : OnD (dNew fs) := ⟨rfl, rfl⟩
theorem new_two : (dNew []).L = twoF none none := rfl
def logP : LogP logK where
  Fine := fun S => (∃ C, RunG S C) ∧ OnD (LS10.D S)
  Last := fun S => RunG S [LS10.L S] ∧ OnD (LS10.D S)
  start := by
    rcases open_two new_two (fun v d e => by cases e) with ⟨S, q1, q2, q3, q4, q5⟩ | ⟨D', _, q2, _⟩
    · rcases q5 with ⟨_, q5, q6⟩ | ⟨v, d, e, _⟩
      · exact ⟨S, q1, ⟨⟨[[]], RunG.empty q2 q3 q5 q6 (List.mem_cons_self ..)⟩, q4 (on_new _)⟩, q5⟩
      · cases e
    · exact absurd (on_new _) q2
  act := fun {S} m a h => by
    obtain ⟨⟨C, hr⟩, hon⟩ := h
    rcases act_run hr m a with ⟨q1, q2, q3, q4⟩ | ⟨_, _, _, hq⟩
    · exact ⟨q1, q2, ⟨_, q3⟩, q4 hon⟩
    · exact absurd hon hq
  sync := fun {S} h => by
    obtain ⟨⟨C, hr⟩, hon⟩ := h
    rcases sync_run hr with ⟨q1, q2, q3, q4⟩ | ⟨_, _, _, hq⟩
    · refine ⟨?_, q4 hon⟩
      show RunG (syncG S).1 [(syncG S).1.L]
      rw [q2]
      exact q3
    · exact absurd hon hq
  reopen := fun {S} h ps => by
    obtain ⟨hr, hon⟩ := h
    rcases gone_open hr.gone ps (D0 := dNew (dCrash (LS10.D S) ps)) rfl with ⟨S', q1, q2, q3, q4⟩ | ⟨_, _, _, hq⟩
    · exact ⟨S', q1, ⟨⟨_, q3⟩, q4 (on_new _)⟩, List.mem_singleton.1 q2⟩
    · exact absurd (on_new _) hq

theorem off_L (D : PD) {n : Int} (h : 1 ≤ n) : (dOff D n).L = D.L := by
  unfold dOff
  rw [if_neg (by omega)]
  split <;> rfl
def logW : LogW logK where
  Run := fun S C => RunG S C
  Gone := GoneG
  start := fun D hD => by
    have hL : D.L = twoF none none := by
      rcases hD with rfl | ⟨n, h1, _, rfl⟩
      · rfl
      · rw [off_L _ h1]; rfl
    rcases open_two hL (fun v d e => by cases e) with ⟨S, q1, q2, q3, q4, q5⟩ | ⟨D', q1, q2, a', b', q3, q4⟩
    · rcases q5 with ⟨_, q5, q6⟩ | ⟨v, d, e, _⟩
      · exact .inl ⟨S, q1, RunG.empty q2 q3 q5 q6 (List.mem_cons_self ..), q5⟩
      · cases e
    · refine .inr ⟨D', q1, a', b', q3, fun _ => List.mem_cons_self .., fun v d e => ?_⟩
      rcases q4 with q4 | ⟨_, _, e', _⟩
      · rw [q4] at e; cases e
      · cases e'
  act := fun {S C} m a hm h => by
    rcases act_run h m a with ⟨q1, q2, q3, q4⟩ | ⟨D', q1, q2, q3⟩
    · refine .inl ⟨q1, q2, ?_⟩
      have e : ((nextG (logK.recs S) m a).2 = 0 ∧ 4 ≤ m) ↔ ((nextG (LS10.L S) m a).2 = 0 ∧ (m = 4 ∨ m = 5 ∨ m = 6)) := ⟨fun h => ⟨h.1, by omega⟩, fun h => ⟨h.1, by omega⟩⟩
      simp only [e]
      exact q3
    · rw [q1]
      exact .inr ⟨rfl, rfl, rfl, rfl, q2.mono fun x hx => List.mem_append_left _ hx⟩
  rest := fun h => h.gone
  again := fun {D C} h ps => by
    rcases gone_open h ps (D0 := dNew (dCrash D ps)) rfl with ⟨S', q1, q2, q3, q4⟩ | ⟨_, _, _, hq⟩
    · exact ⟨S', q1, q2, q3.gone⟩
    · exact absurd (on_new _) hq
  againOff := fun {D C} h ps n h1 _ => by
    rcases gone_open h ps (D0 := dOff (dNew (dCrash D ps)) n) (off_L _ h1) with ⟨S', q1, q2, q3, q4⟩ | ⟨D', q1, q2, _⟩
    · exact .inl ⟨S', q1, q2, q3.gone⟩
    · exact .inr ⟨D', q1, q2⟩

end Go.Proofs.Ytaccmjgnggepjaa
