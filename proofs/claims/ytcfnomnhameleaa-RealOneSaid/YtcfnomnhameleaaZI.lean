/-
  What is put into both books ahead, as plain data; the two books' Digest in one word each.
-/
import Derived.Test.YtcfnomnhameleaaRReal
import Derived.Test.YtcfnomnhameleaaZG
import Derived.Test.YtcfnomnhameleaaMCopy
import Derived.Deep.AppendLies
namespace Go.Proofs.Ytcfnomnhameleaa
open Go.RowKit

/-- the bytes of which a message bears the digest, if it has them -/
def putRaw (m : MsgD) : Option (List Int) :=
  if m.k = 1 ∨ m.k = 3 then (if batB m.ba m.bn m.L = true then some (batBytes m.ba m.bn m.L) else none)
  else if m.k = 4 then (if wideB m.ha m.hr m.hB m.hP = true then some (headBytes m.ha m.hr m.hB m.hP) else none)
  else if m.k = 6 then (if wideB m.ca m.cr m.cB m.cP = true then some (headBytes m.ca m.cr m.cB m.cP) else none)
  else none
def putLB (L : List (List Int)) (m : MsgD) : List (List Int) := match putRaw m with
  | none => L
  | some x => addB L x
def putM (L : List (List Int)) (m : MsgD) : MsgD := match putRaw m with
  | none => m
  | some x => if m.k = 6 then { m with cd := ((digL L x : Nat) : Int) } else { m with d := ((digL L x : Nat) : Int) }
theorem addB_len (L : List (List Int)) (x : List Int) : (addB L x).length ≤ L.length + 1 := by
  unfold addB
  split
  · simp
  · omega
theorem putLB_len (L : List (List Int)) (m : MsgD) : (putLB L m).length ≤ L.length + 1 := by
  unfold putLB
  cases putRaw m with
  | none => simp
  | some x => exact addB_len L x
theorem putRaw_small {m : MsgD} {x : List Int} (h : putRaw m = some x) : x.length ≤ 2000 := by
  unfold putRaw at h
  by_cases h1 : m.k = 1 ∨ m.k = 3
  · rw [if_pos h1] at h
    by_cases hb : batB m.ba m.bn m.L = true
    · rw [if_pos hb] at h
      cases h
      exact bytes_small hb
    · rw [if_neg hb] at h; cases h
  rw [if_neg h1] at h
  by_cases h4 : m.k = 4
  · rw [if_pos h4] at h
    by_cases hb : wideB m.ha m.hr m.hB m.hP = true
    · rw [if_pos hb] at h
      cases h
      have := head_small hb
      omega
    · rw [if_neg hb] at h; cases h
  rw [if_neg h4] at h
  by_cases h6 : m.k = 6
  · rw [if_pos h6] at h
    by_cases hb : wideB m.ca m.cr m.cB m.cP = true
    · rw [if_pos hb] at h
      cases h
      have := head_small hb
      omega
    · rw [if_neg hb] at h; cases h
  rw [if_neg h6] at h
  cases h
theorem putRaw_byts {m : MsgD} {x : List Int} (h : putRaw m = some x) : Byts x := by
  unfold putRaw at h
  repeat' split at h
  all_goals first | (cases h; done) | (cases h; first | exact batBytes_byts _ _ _ | exact headBytes_byts _ _ _ _)

/-- the program's book -/
theorem digest_all {I : BookIs} (K : BookK I) {F : Nat → Prop} (g : Nat) (L : List (List Int)) (S : List (Int × Int)) (A : Option Addr) (c n : Nat) (x : List Int) (w : World) (h : I w g F L S) (hg : Given w F A c n x) (hL : L.length ≤ 1000) :
    Calls Try.prog 30 #[.pointer (some ⟨g, 0, none⟩), .slice A n c] w fun e w' => e = .returned (.tuple #[.int .i64 ((digL L x : Nat) : Int), .int .i64 0]) ∧ BookTo I g F (addB L x) S w w' := by
  unfold digL addB
  by_cases h0 : findB L x = 0
  · rw [if_pos h0, if_pos h0]
    exact K.digest_new g L S A c n x w h hg hL h0
  · obtain ⟨k, hk⟩ : ∃ k, findB L x = k + 1 := ⟨findB L x - 1, by omega⟩
    rw [if_neg h0, if_neg h0, hk]
    exact K.digest_old g L S A c n k x w h hg hL hk
/-- the page's -/
theorem rdigest_all {F : Nat → Prop} (g : Nat) (L : List (List Int)) (S : List (Int × Int)) (A : Option Addr) (c n : Nat) (x : List Int) (w : World) (h : IsRef w g F L S) (hz : x.length = n) (hr : Rd w A (u8s x)) (hc : n ≤ c) (hn : n ≤ 1048576) (hL : L.length ≤ 1000) (hs : ∀ y ∈ L, y.length ≤ 1073741824) :
    Calls Try.prog 41 #[.pointer (some ⟨g, 0, none⟩), .slice A n c] w fun e w' => e = .returned (.int .i64 ((digL L x : Nat) : Int)) ∧ RefTo g F (addB L x) S w w' := by
  unfold digL addB
  by_cases h0 : findB L x = 0
  · rw [if_pos h0, if_pos h0]
    exact rdigest_new g L S A c n x w h hz hr hc hn hL hs h0
  · obtain ⟨k, hk⟩ : ∃ k, findB L x = k + 1 := ⟨findB L x - 1, by omega⟩
    rw [if_neg h0, if_neg h0, hk]
    exact rdigest_old g L S A c n k x w h hz hr hn hL hs hk

end Go.Proofs.Ytcfnomnhameleaa
/-
  Both books and the messages that wait, side by side: what the statements on package real keep from round to round.
-/
namespace Go.Proofs.Ytcfnomnhameleaa
open Go.RowKit

/-- a message whose lists stand, whichever blocks of T turn -/
def MsgFree (w : World) (T : Nat → Prop) (m : MsgD) (a : MsgA) : Prop := ∀ w', Touch T w w' → MsgIn w' m a
section
variable {w w' : World} {T T' : Nat → Prop} {m : MsgD} {a : MsgA} {B : Nat}
theorem MsgFree.here (h : MsgFree w T m a) : MsgIn w m a := h w (Touch.refl _ _)
theorem MsgFree.step (h : MsgFree w T m a) (ht : Touch T w w') (hT : ∀ k, T' k → T k ∨ w.heap.size ≤ k) : MsgFree w' T' m a := fun w2 h2 => h w2 (ht.trans h2 hT)
theorem MsgNew.free (h : MsgNew B w m a) (hT : ∀ k, T k → a.has k → False) : MsgFree w T m a := fun _ ht => (h.kept fun g hg hl => ht.block g hl fun hf => hT g hf hg).in_
theorem MsgIn.dig (h : MsgIn w m a) (x y : Int) : MsgIn w { m with d := x, cd := y } a := ⟨h.zL, h.rL, h.kL, h.xL, h.zhB, h.rhB, h.khB, h.xhB, h.zhP, h.rhP, h.khP, h.xhP, h.zcB, h.rcB, h.kcB, h.xcB, h.zcP, h.rcP, h.kcP, h.xcP, h.zcS, h.rcS, h.kcS, h.xcS, h.zD, h.rD, h.kD, h.xD⟩
theorem MsgNew.dig (h : MsgNew B w m a) (x y : Int) : MsgNew B w { m with d := x, cd := y } a := ⟨h.oL, h.ohB, h.ohP, h.ocB, h.ocP, h.ocS, h.oD, h.aL, h.ahB, h.ahP, h.acB, h.acP, h.acS⟩
theorem MsgOk.dig (h : MsgOk m) {x y : Int} (hx : I64 x) (hy : I64 y) : MsgOk { m with d := x, cd := y } := ⟨h.wk, h.wf, h.wt, hx, h.wba, h.wbn, h.wL, h.wha, h.whr, h.whB, h.whP, h.wca, h.wcr, h.wcB, h.wcP, hy, h.wcS, h.wD⟩
end
theorem dig_same (m : MsgD) : ({ m with d := m.d, cd := m.cd } : MsgD) = m := rfl
/-- what is put is the message, its digests aside -/
theorem putM_is (L : List (List Int)) (m : MsgD) : ∃ x y, putM L m = { m with d := x, cd := y } ∧ (x = m.d ∨ x = ((digL L ((putRaw m).getD []) : Nat) : Int)) ∧ (y = m.cd ∨ y = ((digL L ((putRaw m).getD []) : Nat) : Int)) := by
  unfold putM
  cases h : putRaw m with
  | none => exact ⟨m.d, m.cd, rfl, .inl rfl, .inl rfl⟩
  | some x =>
    by_cases h6 : m.k = 6
    · simp only [if_pos h6, Option.getD_some]
      exact ⟨m.d, _, rfl, .inl rfl, .inr rfl⟩
    · simp only [if_neg h6, Option.getD_some]
      exact ⟨_, m.cd, rfl, .inr rfl, .inl rfl⟩
theorem digL_le (L : List (List Int)) (x : List Int) : digL L x ≤ L.length + 1 := by
  unfold digL
  split
  · omega
  · have := find_le L x
    omega
theorem putM_ok {L : List (List Int)} {m : MsgD} (h : MsgOk m) (hL : L.length ≤ 1000) : MsgOk (putM L m) := by
  obtain ⟨x, y, e, hx, hy⟩ := putM_is L m
  have hd := digL_le L ((putRaw m).getD [])
  rw [e]
  refine h.dig ?_ ?_
  · rcases hx with rfl | rfl
    · exact h.wd
    · unfold I64; omega
  · rcases hy with rfl | rfl
    · exact h.wcd
    · unfold I64; omega
theorem putM_new {B : Nat} {w : World} {a : MsgA} (L : List (List Int)) {m : MsgD} (h : MsgNew B w m a) : MsgNew B w (putM L m) a := by
  obtain ⟨x, y, e, _⟩ := putM_is L m
  rw [e]
  exact h.dig x y
theorem putLB_small {L : List (List Int)} (h : ∀ y ∈ L, y.length ≤ 2000) (m : MsgD) : ∀ y ∈ putLB L m, y.length ≤ 2000 := by
  unfold putLB
  cases hr : putRaw m with
  | none => exact h
  | some x =>
    intro y hy
    simp only [addB] at hy
    split at hy
    · rcases List.mem_append.1 hy with hy | hy
      · exact h y hy
      · rw [List.mem_singleton] at hy
        rw [hy]
        exact putRaw_small hr
    · exact h y hy

/-- messages as cells -/
def cellsM (ms : List (MsgD × MsgA)) : List Value := ms.flatMap fun x => msgC x.1 x.2
theorem cellsM_len (ms : List (MsgD × MsgA)) : (cellsM ms).length = ms.length * 18 := by
  induction ms with
  | nil => rfl
  | cons x l ih =>
    have : (cellsM (x :: l)).length = 18 + (cellsM l).length := by
      show (msgC x.1 x.2 ++ cellsM l).length = _
      rw [List.length_append]
      rfl
    rw [this, ih, List.length_cons]
    omega
theorem cellsM_add (ms : List (MsgD × MsgA)) (m : MsgD) (a : MsgA) : cellsM (ms ++ [(m, a)]) = cellsM ms ++ msgC m a := by simp [cellsM]
theorem cellsM_at : ∀ {ms : List (MsgD × MsgA)} {i : Nat} {x : MsgD × MsgA}, ms[i]? = some x → ∀ (j : Nat) (v : Value), (msgC x.1 x.2)[j]? = some v → (cellsM ms)[i * 18 + j]? = some v
  | [], i, x, h, j, v, hv => by simp at h
  | y :: l, 0, x, h, j, v, hv => by
    simp only [List.getElem?_cons_zero, Option.some.injEq] at h
    subst h
    have hj := (List.getElem?_eq_some_iff.1 hv).1
    show (msgC y.1 y.2 ++ cellsM l)[0 * 18 + j]? = some v
    rw [Nat.zero_mul, Nat.zero_add, List.getElem?_append_left hj]
    exact hv
  | y :: l, i + 1, x, h, j, v, hv => by
    simp only [List.getElem?_cons_succ] at h
    have ih := cellsM_at h j v hv
    show (msgC y.1 y.2 ++ cellsM l)[(i + 1) * 18 + j]? = some v
    rw [List.getElem?_append_right (by simp [msgC]; omega)]
    have e : (i + 1) * 18 + j - (msgC y.1 y.2).length = i * 18 + j := by simp [msgC]; omega
    rw [e]
    exact ih

structure Desk (I : BookIs) (B gb gr : Nat) (F G : Nat → Prop) (L L' : List (List Int)) (S S' : List (Int × Int)) (v : Value) (n : Nat) (ms : List (MsgD × MsgA)) (w : World) : Prop where
  pair : Pair I B gb gr F G L L' S S' w
  row : w.ownsRow B 42 18 v n (cellsM ms)
  len : ms.length = n
  apart : ∀ g, v.ownBlock = some g → ¬ F g ∧ ¬ G g
  msgs : ∀ x ∈ ms, MsgFree w (fun k => F k ∨ G k ∨ v.ownBlock = some k) x.1 x.2

section
variable {I : BookIs} {B gb gr n : Nat} {F F' G G' : Nat → Prop} {L L' L2 L3 : List (List Int)} {S S' S2 S3 : List (Int × Int)} {v v' : Value} {ms : List (MsgD × MsgA)} {w w' : World} {m : MsgD} {a : MsgA}
theorem Desk.below (K : BookK I) (h : Desk I B gb gr F G L L' S S' v n ms w) (hb : Below w.heap.size w w') : Desk I B gb gr F G L L' S S' v n ms w' :=
  ⟨h.pair.below K hb, ownS_below h.row hb, h.len, h.apart, fun x hx => (h.msgs x hx).step (Touch.of hb) fun _ hk => .inl hk⟩
/-- both books, at once -/
theorem Desk.both (h : Desk I B gb gr F G L L' S S' v n ms w) (hp : Pair I B gb gr F' G' L2 L3 S2 S3 w') (ht : Touch (fun k => F k ∨ G k) w w') (hf : ∀ k, F' k → F k ∨ w.heap.size ≤ k) (hg : ∀ k, G' k → G k ∨ w.heap.size ≤ k) : Desk I B gb gr F' G' L2 L3 S2 S3 v n ms w' where
  pair := hp
  row := own_kept h.row fun g hg _ => ht.block g (own_lt h.row hg).1 fun hk => hk.elim (h.apart g hg).1 (h.apart g hg).2
  len := h.len
  apart := fun g hv => ⟨fun hk => by
    rcases hf g hk with e | e
    · exact (h.apart g hv).1 e
    · have := (own_lt h.row hv).1
      omega, fun hk => by
    rcases hg g hk with e | e
    · exact (h.apart g hv).2 e
    · have := (own_lt h.row hv).1
      omega⟩
  msgs := fun x hx => (h.msgs x hx).step (ht.mono fun _ hk => hk.elim .inl fun e => .inr (.inl e)) fun k hk => by
    rcases hk with hk | hk | hk
    · exact (hf k hk).imp .inl id
    · exact (hg k hk).imp (fun e => .inr (.inl e)) id
    · exact .inl (.inr (.inr hk))
theorem Desk.left (h : Desk I B gb gr F G L L' S S' v n ms w) (hB : B ≤ w.heap.size) (hi : I w' gb F' L2 S2) (ht : Touch F w w') (hf : ∀ k, F' k → F k ∨ w.heap.size ≤ k) : Desk I B gb gr F' G L2 L' S2 S' v n ms w' where
  pair := h.pair.left hB hi ht hf
  row := own_kept h.row fun g hg _ => ht.block g (own_lt h.row hg).1 (h.apart g hg).1
  len := h.len
  apart := fun g hg => ⟨fun hk => by
    rcases hf g hk with e | e
    · exact (h.apart g hg).1 e
    · have := (own_lt h.row hg).1
      omega, (h.apart g hg).2⟩
  msgs := fun x hx => (h.msgs x hx).step (ht.mono fun _ hk => .inl hk) fun k hk => by
    rcases hk with hk | hk
    · exact (hf k hk).imp .inl id
    · exact .inl (.inr hk)
theorem Desk.right (K : BookK I) (h : Desk I B gb gr F G L L' S S' v n ms w) (hB : B ≤ w.heap.size) (hi : IsRef w' gr G' L2 S2) (ht : Touch G w w') (hf : ∀ k, G' k → G k ∨ w.heap.size ≤ k) : Desk I B gb gr F G' L L2 S S2 v n ms w' where
  pair := h.pair.right K hB hi ht hf
  row := own_kept h.row fun g hg _ => ht.block g (own_lt h.row hg).1 (h.apart g hg).2
  len := h.len
  apart := fun g hg => ⟨(h.apart g hg).1, fun hk => by
    rcases hf g hk with e | e
    · exact (h.apart g hg).2 e
    · have := (own_lt h.row hg).1
      omega⟩
  msgs := fun x hx => (h.msgs x hx).step (ht.mono fun _ hk => .inr (.inl hk)) fun k hk => by
    rcases hk with hk | hk | hk
    · exact .inl (.inl hk)
    · exact (hf k hk).imp (fun e => .inr (.inl e)) id
    · exact .inl (.inr (.inr hk))
/-- one message more -/
theorem Desk.push (K : BookK I) {g' c' : Nat} (h : Desk I B gb gr F G L L' S S' v n ms w) (hm : MsgFree w (fun k => F k ∨ G k ∨ v.ownBlock = some k) m a)
    (ho : w'.ownsRow B 42 18 (.slice (some ⟨g', 0, none⟩) (n + 1) c') (n + 1) (cellsM ms ++ msgC m a)) (hg : w.grownBy w' v.ownBlock) (hat : v.ownBlock = some g' ∨ g' = w.heap.size) : Desk I B gb gr F G L L' S S' (.slice (some ⟨g', 0, none⟩) (n + 1) c') (n + 1) (ms ++ [(m, a)]) w' := by
  have hT : Touch (fun k => v.ownBlock = some k) w w' := Touch.grown hg fun k hk => hk
  have hO : ∀ k, (Value.slice (some ⟨g', 0, none⟩) (n + 1) c').ownBlock = some k → v.ownBlock = some k ∨ w.heap.size ≤ k := fun k hk => by
    have e : g' = k := by simpa [Value.ownBlock] using hk
    subst e
    rcases hat with hat | hat
    · exact .inl hat
    · exact .inr (by omega)
  have hW : Touch (fun k => F k ∨ G k ∨ v.ownBlock = some k) w w' := hT.mono fun _ hk => .inr (.inr hk)
  have hS : ∀ k, (F k ∨ G k ∨ (Value.slice (some ⟨g', 0, none⟩) (n + 1) c').ownBlock = some k) → (F k ∨ G k ∨ v.ownBlock = some k) ∨ w.heap.size ≤ k := fun k hk => by
    rcases hk with hk | hk | hk
    · exact .inl (.inl hk)
    · exact .inl (.inr (.inl hk))
    · exact (hO k hk).imp (fun e => .inr (.inr e)) id
  refine ⟨h.pair.touch K hT fun k hk => h.apart k hk, ?_, by rw [List.length_append, h.len]; rfl, fun g hg2 => ?_, fun x hx => ?_⟩
  · rw [cellsM_add]
    exact ho
  · rcases hO g hg2 with e | e
    · exact h.apart g e
    · exact ⟨fun hk => by have := K.lt h.pair.1.1 g hk; omega, fun hk => by have := h.pair.2.1.1.lt g hk; omega⟩
  · rcases List.mem_append.1 hx with hx | hx
    · exact (h.msgs x hx).step hW hS
    · rw [List.mem_singleton] at hx
      subst hx
      exact hm.step hW hS
/-- the cells of one of them -/
theorem Desk.at_ (h : Desk I B gb gr F G L L' S S' v n ms w) {i : Nat} {x : MsgD × MsgA} (hx : ms[i]? = some x) : ∃ A c, v = .slice A n c ∧ ∃ b, A = some ⟨b, 0, none⟩ ∧ b < w.heap.size ∧ B ≤ b ∧ ∀ (j : Nat) (u : Value), (msgC x.1 x.2)[j]? = some u → w.cell? ⟨b, i * 18 + j, none⟩ = some u := by
  have hi : i < n := by rw [← h.len]; exact (List.getElem?_eq_some_iff.1 hx).1
  obtain ⟨g, cap, rfl, h1, h2⟩ := h.row.form (by omega)
  exact ⟨_, _, rfl, g, rfl, h2, h1, fun j u hu => by
    have := h.row.cells (g := g) rfl _ u (cellsM_at hx j u hu)
    rwa [Addr.add_lit, Nat.zero_add] at this⟩
end

/-- append of one element of several cells, and where the row lies then -/
theorem wpList_app_elemL {P : Program} (w : World) {ops : Array Oper} {rest : List Oper} {o : Oper} {a : Act} {Q : Exit → Act → World → Prop} (hgd : o.guard = none) (s x : Operand) (t : TypeId)
    (ho : o.op = .call { callee := .builtin .append, args := #[s, x], argTypes := #[t, t] })
    (B : Nat) (e : TypeId) (z : Value) (sz bytes : Nat) (ht : P.underlying t = some (.slice e)) (hinfo : (P.info? e).map (fun i => (i.zero, i.size, i.bytes)) = some (some z, sz, bytes)) (hzs : z.cells.size = sz) (hsz : 0 < sz) (hby : bytes ≤ 512)
    (v : Value) (n : Nat) (xs : List Value) (hs : a.eval s = v) (hown : w.ownsRow B e sz v n xs)
    (g : Nat) (us : List Value) (hx : a.eval x = .slice (some ⟨g, 0, none⟩) 1 1) (hu : us.length = sz) (hc : ∀ i u, us[i]? = some u → w.cell? ⟨g, i, none⟩ = some u) (h1 : ∀ u ∈ us, u.oneCell' = true)
    (hn : n + 1 ≤ 68719476736) (hB : B ≤ w.heap.size)
    (h : ∀ g' c' w', w'.ownsRow B e sz (.slice (some ⟨g', 0, none⟩) (n + 1) c') (n + 1) (xs ++ us) → w.grownBy w' v.ownBlock → (v.ownBlock = some g' ∨ g' = w.heap.size) → wpList P ops Q rest (a.put o.dst (.slice (some ⟨g', 0, none⟩) (n + 1) c')) w') : wpList P ops Q (o :: rest) a w := by
  obtain ⟨i, hi, hz, hsize, hbytes⟩ := info_parts hinfo
  refine wpList_append_lies (P := P) w hgd s x t ho B e i z sz bytes ht hi hz hsize hbytes hzs hsz v n xs hs hown ⟨g, 0, none⟩ 1 1 us hx (by omega) ?_ h1 (by decide) (by unfold maxLen; omega) ?_ hB _ rfl ?_
  · intro j y hj
    rw [Addr.add_lit, Nat.zero_add]
    exact hc j y hj
  · have := Nat.mul_le_mul hn hby
    omega
  · intro g' cap w' hown' hg hat _
    exact h g' cap w' hown' hg hat

end Go.Proofs.Ytcfnomnhameleaa
