/-
  The page's reading of a header.
-/
import Derived.Test.YtcfnomnhameleaaHPage
import Derived.Test.YtcfnomnhameleaaHCert
import Derived.Test.YtcfnomnhameleaaZA
import Derived.Test.YtcfnomnhameleaaZD
import Derived.Deep.MidRow
namespace Go.Proofs.Ytcfnomnhameleaa
open Go.RowKit

theorem str_toListH {a b : ByteArray} : a.toList = b.toList ↔ a = b := by
  constructor
  · intro h
    rw [ByteArray.toList_eq, ByteArray.toList_eq] at h
    obtain ⟨⟨x⟩⟩ := a
    obtain ⟨⟨y⟩⟩ := b
    simp at h
    rw [h]
  · rintro rfl; rfl
theorem headW_toList : headW.toList = [104, 101, 97, 100, 101, 114] := by rw [ByteArray.toList_eq]; rfl
theorem text_inH {zs : List Int} {l : List (List Int)} (hy : Byts zs) (h : getPuts zs = some l) : ∀ s ∈ l, s.length ≤ zs.length := fun s hs => by
  rw [getPuts_get hy h, putPuts, List.length_append]
  have : ∀ (l : List (List Int)), s ∈ l → s.length ≤ (vputs l).length := by
    intro l
    induction l with
    | nil => intro h; simp at h
    | cons x l ih =>
      intro h
      have e : vputs (x :: l) = vnum x.length ++ x ++ vputs l := by simp [vputs]
      rw [e, List.length_append, List.length_append]
      rcases List.mem_cons.1 h with rfl | h
      · omega
      · have := ih h; omega
  have := this l hs
  omega
theorem textsH_odd {T : List ByteArray} (h : T.length ≠ 5) : textsH T = none := by
  match T, h with
  | [], _ => rfl
  | [_], _ => rfl
  | [_, _], _ => rfl
  | [_, _, _], _ => rfl
  | [_, _, _, _], _ => rfl
  | [_, _, _, _, _], h => simp at h
  | _ :: _ :: _ :: _ :: _ :: _ :: _, _ => rfl
theorem textsH_not {t0 t1 t2 t3 t4 : ByteArray} {b1 b2 : Bool} (h1 : (wholeN t1).isSome = b1) (h2 : (wholeN t2).isSome = b2) (h : (b1 && b2 && (numsO t3).isSome && (numsO t4).isSome) = false) : textsH [t0, t1, t2, t3, t4] = none := by
  rw [textsH_five, if_neg]
  rintro ⟨_, g1, g2, g3, g4, _⟩
  rw [h1] at g1
  rw [h2] at g2
  rw [g1, g2, g3, g4] at h
  cases h
theorem textsH_bad {t0 t1 t2 t3 t4 : ByteArray} {x1 x2 : Int} {B P : List Int} (h1 : ∀ m, wholeN t1 = some m → x1 = (m : Int)) (h2 : ∀ m, wholeN t2 = some m → x2 = (m : Int)) (h3 : numsO t3 = some B) (h4 : numsO t4 = some P) (h : wideB x1 x2 B P = false) : textsH [t0, t1, t2, t3, t4] = none := by
  rw [textsH_five, if_neg]
  rintro ⟨_, g1, g2, _, _, g5⟩
  rw [Option.isSome_iff_exists] at g1 g2
  obtain ⟨m, hm⟩ := g1
  obtain ⟨m', hm'⟩ := g2
  rw [hm, hm', h3, h4, Option.getD_some, Option.getD_some, Option.getD_some, Option.getD_some, ← h1 m hm, ← h2 m' hm', h] at g5
  cases g5
theorem textsH_good {t0 t1 t2 t3 t4 : ByteArray} {x1 x2 : Int} {B P : List Int} (h0 : t0 = headW) (e1 : (wholeN t1).isSome = true) (e2 : (wholeN t2).isSome = true) (h1 : ∀ m, wholeN t1 = some m → x1 = (m : Int)) (h2 : ∀ m, wholeN t2 = some m → x2 = (m : Int)) (h3 : numsO t3 = some B) (h4 : numsO t4 = some P) (h : wideB x1 x2 B P = true) :
    textsH [t0, t1, t2, t3, t4] = some (x1, x2, B, P) := by
  rw [Option.isSome_iff_exists] at e1 e2
  obtain ⟨m, hm⟩ := e1
  obtain ⟨m', hm'⟩ := e2
  have a1 := h1 m hm
  have a2 := h2 m' hm'
  rw [textsH_five, hm, hm', h3, h4, Option.getD_some, Option.getD_some, Option.getD_some, Option.getD_some, ← a1, ← a2, if_pos ⟨h0, rfl, rfl, rfl, rfl, h⟩]

theorem putNums_ge (l : List Nat) : l.length ≤ (putNums l).length := by
  have : ∀ l : List Nat, l.length ≤ (vnums l).length := by
    intro l
    induction l with
    | nil => simp
    | cons m l ih =>
      have h1 := vnum_pos m
      have e : vnums (m :: l) = vnum m ++ vnums l := by simp [vnums]
      rw [e, List.length_append, List.length_cons]
      omega
  have := this l
  rw [putNums, List.length_append]
  omega

/-- a header that is told, or none -/
def RParsedH (w : World) (r : Option (Int × Int × List Int × List Int)) (e : Ending) (w' : World) : Prop :=
  Below w.heap.size w w' ∧ match r with
  | some (a, r, B, P) => ∃ AB cB AP cP, e = .returned (.tuple #[.agg #[.int .i64 a, .int .i64 r, .slice AB B.length cB, .slice AP P.length cP], .bool true]) ∧ w'.ownsRow w.heap.size 3 1 (.slice AB B.length cB) B.length (i64s B) ∧ w'.ownsRow w.heap.size 3 1 (.slice AP P.length cP) P.length (i64s P)
  | none => e = .returned (.tuple #[.agg #[.int .i64 0, .int .i64 0, .slice none 0 0, .slice none 0 0], .bool false])
theorem rparsedH_none {w w' : World} {r : Option (Int × Int × List Int × List Int)} {e : Ending} (h : r = none) (hb : Below w.heap.size w w') (he : e = .returned (.tuple #[.agg #[.int .i64 0, .int .i64 0, .slice none 0 0, .slice none 0 0], .bool false])) : RParsedH w r e w' := by
  subst h; exact ⟨hb, he⟩
theorem rparsedH_some {w w' : World} {q : Option (Int × Int × List Int × List Int)} {e : Ending} {a r : Int} {B P : List Int} {AB AP : Option Addr} {cB cP nB nP : Nat} (h : q = some (a, r, B, P)) (hB : B.length = nB) (hP : P.length = nP) (hb : Below w.heap.size w w') (he : e = .returned (.tuple #[.agg #[.int .i64 a, .int .i64 r, .slice AB nB cB, .slice AP nP cP], .bool true]))
    (hoB : w'.ownsRow w.heap.size 3 1 (.slice AB nB cB) nB (i64s B)) (hoP : w'.ownsRow w.heap.size 3 1 (.slice AP nP cP) nP (i64s P)) : RParsedH w q e w' := by
  subst h hB hP; exact ⟨hb, AB, cB, AP, cP, he, hoB, hoP⟩

end Go.Proofs.Ytcfnomnhameleaa
/-
  A slice of what is asked (a certificate, how many nodes, bytes) that came in: its cells at each index, and the lists that they show. And what is asked of package header.
-/
namespace Go.Proofs.Ytcfnomnhameleaa
open Go.RowKit Go.ChangeShapes Go.WideShapes Go.Deep

def I64 (x : Int) : Prop := -9223372036854775808 ≤ x ∧ x ≤ 9223372036854775807
def I64s (l : List Int) : Prop := ∀ x ∈ l, I64 x

/-- numbers in a slice -/
structure NumsIn (w : World) (A : Option Addr) (c n : Nat) (l : List Int) : Prop where
  hz : l.length = n
  hr : Rd w A (i64s l)
  hc : n ≤ c
  hm : c ≤ maxLen
  hi : I64s l
theorem NumsIn.below {w w' : World} {A : Option Addr} {c n : Nat} {l : List Int} (h : NumsIn w A c n l) (hb : Below w.heap.size w w') : NumsIn w' A c n l := ⟨h.hz, h.hr.below hb, h.hc, h.hm, h.hi⟩
theorem NumsIn.own {w : World} {B : Nat} {A : Option Addr} {c n : Nat} {l : List Int} (h : w.ownsRow B 3 1 (.slice A n c) n (i64s l)) (hi : I64s l) : NumsIn w A c n l := by
  obtain ⟨A', c', hv, hc, hm, hr, _, hl⟩ := own_val h
  cases hv
  exact ⟨by rw [← hl, i64s_length], hr, hc, hm, hi⟩

/-- what is asked at one index -/
structure HAsked where
  a : Int
  r : Int
  AB : Option Addr
  cB : Nat
  B : List Int
  AP : Option Addr
  cP : Nat
  P : List Int
  d : Int
  AS : Option Addr
  cS : Nat
  S : List Int
  N : Int
  AX : Option Addr
  cX : Nat
  X : List Int

structure HAskOk (w : World) (q : HAsked) : Prop where
  wa : I64 q.a
  wr : I64 q.r
  wd : I64 q.d
  wN : I64 q.N
  nB : NumsIn w q.AB q.cB q.B.length q.B
  nP : NumsIn w q.AP q.cP q.P.length q.P
  nS : NumsIn w q.AS q.cS q.S.length q.S
  zB : q.B.length ≤ 140737488351232
  zP : q.P.length ≤ 140737488351232
  zS : q.S.length ≤ 140737488351232
  hX : q.X.length ≤ q.cX
  mX : q.cX ≤ maxLen
  rX : Rd w q.AX (u8s q.X)
  sX : Byts q.X

def HAskAt (w : World) (a : Option Addr) (i : Nat) : Prop :=
  ∃ (b off : Nat) (q : HAsked), a = some ⟨b, off, none⟩ ∧ b < w.heap.size ∧ HAskOk w q ∧
    w.cell? ⟨b, off + i * 8, none⟩ = some (.int .i64 q.a) ∧ w.cell? ⟨b, off + i * 8 + 1, none⟩ = some (.int .i64 q.r) ∧
    w.cell? ⟨b, off + i * 8 + 2, none⟩ = some (.slice q.AB q.B.length q.cB) ∧ w.cell? ⟨b, off + i * 8 + 3, none⟩ = some (.slice q.AP q.P.length q.cP) ∧
    w.cell? ⟨b, off + i * 8 + 4, none⟩ = some (.int .i64 q.d) ∧ w.cell? ⟨b, off + i * 8 + 5, none⟩ = some (.slice q.AS q.S.length q.cS) ∧
    w.cell? ⟨b, off + i * 8 + 6, none⟩ = some (.int .i64 q.N) ∧ w.cell? ⟨b, off + i * 8 + 7, none⟩ = some (.slice q.AX q.X.length q.cX)

def HAsks (w : World) (a : Option Addr) (len cap : Nat) : Prop := len ≤ cap ∧ cap ≤ maxLen ∧ ∀ i, i < len → HAskAt w a i

theorem cells_cert : Try.prog.cellsOf 40 = 6 := by kernel_rfl
theorem cells_hdr : Try.prog.cellsOf 38 = 4 := by kernel_rfl
theorem bytes_int : Try.prog.bytesOf 3 = 8 := by kernel_rfl

theorem HAskOk.below {w w' : World} {q : HAsked} (h : HAskOk w q) (hb : Below w.heap.size w w') : HAskOk w' q :=
  ⟨h.wa, h.wr, h.wd, h.wN, h.nB.below hb, h.nP.below hb, h.nS.below hb, h.zB, h.zP, h.zS, h.hX, h.mX, h.rX.below hb, h.sX⟩
/-- the cells of what is asked, in every later world -/
theorem HAskAt.all {w : World} {a : Option Addr} {i : Nat} (h : HAskAt w a i) : ∃ (b off : Nat) (q : HAsked) (nB nP nS nX : Nat), a = some ⟨b, off, none⟩ ∧ q.B.length = nB ∧ q.P.length = nP ∧ q.S.length = nS ∧ q.X.length = nX ∧ ∀ wX, Below w.heap.size w wX → HAskOk wX q ∧
    wX.cell? ⟨b, off + i * 8, none⟩ = some (.int .i64 q.a) ∧ wX.cell? ⟨b, off + i * 8 + 1, none⟩ = some (.int .i64 q.r) ∧
    wX.cell? ⟨b, off + i * 8 + 2, none⟩ = some (.slice q.AB nB q.cB) ∧ wX.cell? ⟨b, off + i * 8 + 3, none⟩ = some (.slice q.AP nP q.cP) ∧
    wX.cell? ⟨b, off + i * 8 + 4, none⟩ = some (.int .i64 q.d) ∧ wX.cell? ⟨b, off + i * 8 + 5, none⟩ = some (.slice q.AS nS q.cS) ∧
    wX.cell? ⟨b, off + i * 8 + 6, none⟩ = some (.int .i64 q.N) ∧ wX.cell? ⟨b, off + i * 8 + 7, none⟩ = some (.slice q.AX nX q.cX) := by
  obtain ⟨b, off, q, rfl, hlt, ok, c0, c1, c2, c3, c4, c5, c6, c7⟩ := h
  exact ⟨b, off, q, _, _, _, _, rfl, rfl, rfl, rfl, rfl, fun wX hb => ⟨ok.below hb, (hb.cell (p := ⟨b, _, none⟩) hlt).trans c0, (hb.cell (p := ⟨b, _, none⟩) hlt).trans c1, (hb.cell (p := ⟨b, _, none⟩) hlt).trans c2, (hb.cell (p := ⟨b, _, none⟩) hlt).trans c3, (hb.cell (p := ⟨b, _, none⟩) hlt).trans c4, (hb.cell (p := ⟨b, _, none⟩) hlt).trans c5, (hb.cell (p := ⟨b, _, none⟩) hlt).trans c6, (hb.cell (p := ⟨b, _, none⟩) hlt).trans c7⟩⟩

/-- the two lists of the header that is asked at an index are short -/
def HLight (w : World) (a : Option Addr) (i : Nat) : Prop := ∀ (b off : Nat) (A : Option Addr) (n c : Nat), a = some ⟨b, off, none⟩ →
  (w.cell? ⟨b, off + i * 8 + 2, none⟩ = some (.slice A n c) → n ≤ 499) ∧ (w.cell? ⟨b, off + i * 8 + 3, none⟩ = some (.slice A n c) → n ≤ 499)
theorem hlight_next {w : World} {b off k : Nat} {AB AP : Option Addr} {nB cB nP cP : Nat} (h : ∀ p, p < k → HLight w (some ⟨b, off, none⟩) p) (c2 : w.cell? ⟨b, off + k * 8 + 2, none⟩ = some (.slice AB nB cB)) (c3 : w.cell? ⟨b, off + k * 8 + 3, none⟩ = some (.slice AP nP cP)) (hB : nB ≤ 499) (hP : nP ≤ 499) :
    ∀ p, p < k + 1 → HLight w (some ⟨b, off, none⟩) p := fun p hp => by
  by_cases hpk : p < k
  · exact h p hpk
  · have e : p = k := by omega
    subst e
    intro b' off' A n c hab
    cases hab
    constructor
    · intro h2; rw [c2] at h2; cases h2; exact hB
    · intro h2; rw [c3] at h2; cases h2; exact hP

/-! ### what is asked of package header -/
/-- a header's two lists -/
structure HdrIn (w : World) (AB : Option Addr) (cB nB : Nat) (B : List Int) (AP : Option Addr) (cP nP : Nat) (P : List Int) : Prop where
  hB : NumsIn w AB cB nB B
  hP : NumsIn w AP cP nP P
  lB : nB ≤ 1000000
  lP : nP ≤ 1000000
theorem HdrIn.below {w w' : World} {AB AP : Option Addr} {cB nB cP nP : Nat} {B P : List Int} (h : HdrIn w AB cB nB B AP cP nP P) (hb : Below w.heap.size w w') : HdrIn w' AB cB nB B AP cP nP P := ⟨h.hB.below hb, h.hP.below hb, h.lB, h.lP⟩

theorem eqBytes_isH (b : Bool) (A A' : Option Addr) (c c' n n' : Nat) (L M : List Int) (w : World) (hb : decide (L = M) = b) (hz : L.length = n) (hz' : M.length = n') (hr : Rd w A (u8s L)) (hr' : Rd w A' (u8s M)) (hn : n ≤ 1073741824) (hn' : n' ≤ 1073741824) :
    Calls Try.prog 72 #[.slice A n c, .slice A' n' c'] w fun e w' => e = .returned (.bool b) ∧ ∃ d, w' = w.drewN d :=
  hb ▸ eqBytes_any A A' c c' n n' L M w hz hz' hr hr' hn hn'
/-- the cells of a new header's block, in every later world -/
def HBox (w : World) (g : Nat) (a r : Int) (vB vP : Value) : Prop :=
  w.cell? ⟨g, 0, none⟩ = some (.int .i64 a) ∧ w.cell? ⟨g, 1, none⟩ = some (.int .i64 r) ∧ w.cell? ⟨g, 2, none⟩ = some vB ∧ w.cell? ⟨g, 3, none⟩ = some vP
theorem hbox_new {w w1 : World} {a r : Int} {vB vP : Value} (h : w1 = w.alloc (.cells #[.int .i64 a, .int .i64 r, vB, vP] 38)) : ∀ wX, Below w1.heap.size w1 wX → HBox wX w.heap.size a r vB vP := by
  subst h
  intro wX hb
  have hs : w.heap.size < (w.alloc (.cells #[.int .i64 a, .int .i64 r, vB, vP] 38)).heap.size := by simp
  refine ⟨(hb.cell (p := ⟨w.heap.size, 0, none⟩) hs).trans ?_, (hb.cell (p := ⟨w.heap.size, 1, none⟩) hs).trans ?_, (hb.cell (p := ⟨w.heap.size, 2, none⟩) hs).trans ?_, (hb.cell (p := ⟨w.heap.size, 3, none⟩) hs).trans ?_⟩
  all_goals
    rw [World.cell?_alloc_at _ _ _ _ rfl]
    rfl
theorem wide_i64 {a r : Int} {B P : List Int} (h : wideB a r B P = true) : I64s B ∧ I64s P ∧ B.length ≤ 8 ∧ P.length ≤ 16 := by
  obtain ⟨_, _, ⟨b0, b1⟩, p0, p1⟩ := wide_all h
  exact ⟨fun x hx => by have := b1 x hx; unfold I64; omega, fun x hx => by have := p1 x hx; unfold I64; omega, by omega, by omega⟩

/-! ### what wakes the statements -/
theorem wake_mayH : wideB 1 1 [] [] = true := by decide
end Go.Proofs.Ytcfnomnhameleaa
/-
  Messages as plain data, where they lie in memory, and which may be among n nodes.
-/
namespace Go.Proofs.Ytcfnomnhameleaa
open Go.RowKit

/-- a message -/
structure MsgD where
  k : Int
  f : Int
  t : Int
  d : Int
  ba : Int
  bn : Int
  L : List TxD
  ha : Int
  hr : Int
  hB : List Int
  hP : List Int
  ca : Int
  cr : Int
  cB : List Int
  cP : List Int
  cd : Int
  cS : List Int
  D : List Int
deriving DecidableEq
/-- where its lists lie -/
structure MsgA where
  AL : Option Addr
  nL : Nat
  cL : Nat
  AhB : Option Addr
  nhB : Nat
  chB : Nat
  AhP : Option Addr
  nhP : Nat
  chP : Nat
  AcB : Option Addr
  ncB : Nat
  ccB : Nat
  AcP : Option Addr
  ncP : Nat
  ccP : Nat
  AcS : Option Addr
  ncS : Nat
  ccS : Nat
  AD : Option Addr
  nD : Nat
  cD : Nat
def msgC (m : MsgD) (a : MsgA) : List Value := [.int .i64 m.k, .int .i64 m.f, .int .i64 m.t, .int .i64 m.d, .int .i64 m.ba, .int .i64 m.bn, .slice a.AL a.nL a.cL, .int .i64 m.ha, .int .i64 m.hr, .slice a.AhB a.nhB a.chB, .slice a.AhP a.nhP a.chP, .int .i64 m.ca, .int .i64 m.cr, .slice a.AcB a.ncB a.ccB, .slice a.AcP a.ncP a.ccP, .int .i64 m.cd, .slice a.AcS a.ncS a.ccS, .slice a.AD a.nD a.cD]
def msgV (m : MsgD) (a : MsgA) : Value := .agg #[.int .i64 m.k, .int .i64 m.f, .int .i64 m.t, .int .i64 m.d, .int .i64 m.ba, .int .i64 m.bn, .slice a.AL a.nL a.cL, .int .i64 m.ha, .int .i64 m.hr, .slice a.AhB a.nhB a.chB, .slice a.AhP a.nhP a.chP, .int .i64 m.ca, .int .i64 m.cr, .slice a.AcB a.ncB a.ccB, .slice a.AcP a.ncP a.ccP, .int .i64 m.cd, .slice a.AcS a.ncS a.ccS, .slice a.AD a.nD a.cD]
def zeroM : MsgD := ⟨0, 0, 0, 0, 0, 0, [], 0, 0, [], [], 0, 0, [], [], 0, [], []⟩
def zeroA : MsgA := ⟨none, 0, 0, none, 0, 0, none, 0, 0, none, 0, 0, none, 0, 0, none, 0, 0, none, 0, 0⟩
/-- a message in memory -/
structure MsgIn (w : World) (m : MsgD) (a : MsgA) : Prop where
  zL : m.L.length = a.nL
  rL : Rd w a.AL (txs m.L)
  kL : a.nL ≤ a.cL
  xL : a.cL ≤ maxLen
  zhB : m.hB.length = a.nhB
  rhB : Rd w a.AhB (i64s m.hB)
  khB : a.nhB ≤ a.chB
  xhB : a.chB ≤ maxLen
  zhP : m.hP.length = a.nhP
  rhP : Rd w a.AhP (i64s m.hP)
  khP : a.nhP ≤ a.chP
  xhP : a.chP ≤ maxLen
  zcB : m.cB.length = a.ncB
  rcB : Rd w a.AcB (i64s m.cB)
  kcB : a.ncB ≤ a.ccB
  xcB : a.ccB ≤ maxLen
  zcP : m.cP.length = a.ncP
  rcP : Rd w a.AcP (i64s m.cP)
  kcP : a.ncP ≤ a.ccP
  xcP : a.ccP ≤ maxLen
  zcS : m.cS.length = a.ncS
  rcS : Rd w a.AcS (i64s m.cS)
  kcS : a.ncS ≤ a.ccS
  xcS : a.ccS ≤ maxLen
  zD : m.D.length = a.nD
  rD : Rd w a.AD (i64s m.D)
  kD : a.nD ≤ a.cD
  xD : a.cD ≤ maxLen
theorem MsgIn.below {w w' : World} {m : MsgD} {a : MsgA} (h : MsgIn w m a) (hb : Below w.heap.size w w') : MsgIn w' m a :=
  ⟨h.zL, h.rL.below hb, h.kL, h.xL, h.zhB, h.rhB.below hb, h.khB, h.xhB, h.zhP, h.rhP.below hb, h.khP, h.xhP, h.zcB, h.rcB.below hb, h.kcB, h.xcB, h.zcP, h.rcP.below hb, h.kcP, h.xcP, h.zcS, h.rcS.below hb, h.kcS, h.xcS, h.zD, h.rD.below hb, h.kD, h.xD⟩
theorem MsgIn.all {w : World} {m : MsgD} {a : MsgA} (h : MsgIn w m a) : ∀ wX, Below w.heap.size w wX → MsgIn wX m a := fun _ hb => h.below hb
theorem msgIn_zero (w : World) : MsgIn w zeroM zeroA := ⟨rfl, Rd.nil _ _, Nat.le_refl _, by simp [zeroA, maxLen], rfl, Rd.nil _ _, Nat.le_refl _, by simp [zeroA, maxLen], rfl, Rd.nil _ _, Nat.le_refl _, by simp [zeroA, maxLen], rfl, Rd.nil _ _, Nat.le_refl _, by simp [zeroA, maxLen], rfl, Rd.nil _ _, Nat.le_refl _, by simp [zeroA, maxLen], rfl, Rd.nil _ _, Nat.le_refl _, by simp [zeroA, maxLen], rfl, Rd.nil _ _, Nat.le_refl _, by simp [zeroA, maxLen]⟩
/-- its numbers are numbers of the language -/
structure MsgOk (m : MsgD) : Prop where
  wk : I64 m.k
  wf : I64 m.f
  wt : I64 m.t
  wd : I64 m.d
  wba : I64 m.ba
  wbn : I64 m.bn
  wL : ∀ t ∈ m.L, TxOk t
  wha : I64 m.ha
  whr : I64 m.hr
  whB : I64s m.hB
  whP : I64s m.hP
  wca : I64 m.ca
  wcr : I64 m.cr
  wcB : I64s m.cB
  wcP : I64s m.cP
  wcd : I64 m.cd
  wcS : I64s m.cS
  wD : I64s m.D
theorem i64_zero : I64 0 := by unfold I64; omega
theorem msgOk_zero : MsgOk zeroM := ⟨i64_zero, i64_zero, i64_zero, i64_zero, i64_zero, i64_zero, fun x h => by simp [zeroM] at h, i64_zero, i64_zero, fun x h => by simp [zeroM] at h, fun x h => by simp [zeroM] at h, i64_zero, i64_zero, fun x h => by simp [zeroM] at h, fun x h => by simp [zeroM] at h, i64_zero, fun x h => by simp [zeroM] at h, fun x h => by simp [zeroM] at h⟩
/-- none of its lists is longer than s -/
structure MsgFew (s : Nat) (a : MsgA) : Prop where
  sL : a.nL ≤ s
  shB : a.nhB ≤ s
  shP : a.nhP ≤ s
  scB : a.ncB ≤ s
  scP : a.ncP ≤ s
  scS : a.ncS ≤ s
  sD : a.nD ≤ s
theorem MsgFew.more {s s' : Nat} {a : MsgA} (h : MsgFew s a) (hs : s ≤ s') : MsgFew s' a := ⟨Nat.le_trans h.sL hs, Nat.le_trans h.shB hs, Nat.le_trans h.shP hs, Nat.le_trans h.scB hs, Nat.le_trans h.scP hs, Nat.le_trans h.scS hs, Nat.le_trans h.sD hs⟩

/-! ### which may be -/
def idsB (m : MsgD) (n : Int) : Bool := decide (mayB n = true ∧ (1 ≤ m.f ∧ m.f ≤ n) ∧ (1 ≤ m.t ∧ m.t ≤ n) ∧ m.f ≠ m.t)
def digB (d : Int) : Bool := decide (1 ≤ d ∧ d ≤ 65536)
/-- what a message of its kind has -/
def formB (m : MsgD) (n : Int) : Bool :=
  if m.k = 1 ∨ m.k = 3 then digB m.d && (batB m.ba m.bn m.L && decide (m.ba ≤ n))
  else if m.k = 2 ∨ m.k = 5 then digB m.d
  else if m.k = 4 then digB m.d && (hdrB m.ha m.hr m.hB m.hP n && decide (m.ha = m.f))
  else if m.k = 6 then certB m.ca m.cr m.cB m.cP m.cd m.cS n
  else if m.k = 7 ∨ m.k = 8 then decide (1 ≤ m.D.length) && digsB m.D 16
  else false
/-- a message with what its kind has, and no more -/
def onlyM (m : MsgD) : MsgD :=
  if m.k = 1 ∨ m.k = 3 then { zeroM with k := m.k, f := m.f, t := m.t, d := m.d, ba := m.ba, bn := m.bn, L := m.L }
  else if m.k = 2 ∨ m.k = 5 then { zeroM with k := m.k, f := m.f, t := m.t, d := m.d }
  else if m.k = 4 then { zeroM with k := m.k, f := m.f, t := m.t, d := m.d, ha := m.ha, hr := m.hr, hB := m.hB, hP := m.hP }
  else if m.k = 6 then { zeroM with k := m.k, f := m.f, t := m.t, ca := m.ca, cr := m.cr, cB := m.cB, cP := m.cP, cd := m.cd, cS := m.cS }
  else if m.k = 7 ∨ m.k = 8 then { zeroM with k := m.k, f := m.f, t := m.t, D := m.D }
  else { zeroM with k := m.k, f := m.f, t := m.t }
/-- a message that may be among n nodes -/
def messB (m : MsgD) (n : Int) : Bool := idsB m n && (formB m n && decide (onlyM m = m))

/-! ### comparisons, part by part -/
def eqBatM (a n : Int) (L : List TxD) (a' n' : Int) (L' : List TxD) : Bool := decide (a = a' ∧ n = n' ∧ L = L')
def eqCer (a r : Int) (B P : List Int) (d : Int) (S : List Int) (a' r' : Int) (B' P' : List Int) (d' : Int) (S' : List Int) : Bool := decide ((a = a' ∧ r = r' ∧ B = B' ∧ P = P') ∧ d = d' ∧ S = S')
theorem msg_eq (m m' : MsgD) : decide (m = m') = (decide (m.k = m'.k) && (decide (m.f = m'.f) && (decide (m.t = m'.t) && (decide (m.d = m'.d) && (eqBatM m.ba m.bn m.L m'.ba m'.bn m'.L && (eqHdr m.ha m.hr m.hB m.hP m'.ha m'.hr m'.hB m'.hP && (eqCer m.ca m.cr m.cB m.cP m.cd m.cS m'.ca m'.cr m'.cB m'.cP m'.cd m'.cS && decide (m.D = m'.D)))))))) := by
  rw [Bool.eq_iff_iff]
  obtain ⟨x0, x1, x2, x3, x4, x5, x6, x7, x8, x9, x10, x11, x12, x13, x14, x15, x16, x17⟩ := m
  obtain ⟨y0, y1, y2, y3, y4, y5, y6, y7, y8, y9, y10, y11, y12, y13, y14, y15, y16, y17⟩ := m'
  simp only [Bool.and_eq_true, decide_eq_true_eq, eqBatM, eqHdr, eqCer, MsgD.mk.injEq]
  constructor
  · rintro ⟨h1, h2, h3, h4, h5, h6, h7, h8, h9, h10, h11, h12, h13, h14, h15, h16, h17, h18⟩
    exact ⟨h1, h2, h3, h4, ⟨h5, h6, h7⟩, ⟨h8, h9, h10, h11⟩, ⟨⟨h12, h13, h14, h15⟩, h16, h17⟩, h18⟩
  · rintro ⟨h1, h2, h3, h4, ⟨h5, h6, h7⟩, ⟨h8, h9, h10, h11⟩, ⟨⟨h12, h13, h14, h15⟩, h16, h17⟩, h18⟩
    exact ⟨h1, h2, h3, h4, h5, h6, h7, h8, h9, h10, h11, h12, h13, h14, h15, h16, h17, h18⟩
theorem eqBatM_same (a n : Int) (L : List TxD) : eqBatM a n L a n L = true := by simp [eqBatM]
theorem eqCer_same (a r : Int) (B P : List Int) (d : Int) (S : List Int) : eqCer a r B P d S a r B P d S = true := by simp [eqCer]

/-! ### a message's block -/
/-- a block's cells, which may be written -/
def Box (w : World) (g : Nat) (vs : List Value) : Prop := g < w.heap.size ∧ ∀ i v, vs[i]? = some v → w.cell? ⟨g, i, none⟩ = some v ∧ w.frozen? ⟨g, i, none⟩ = false
theorem Box.lt {w : World} {g : Nat} {vs : List Value} (h : Box w g vs) : g < w.heap.size := h.1
theorem Box.below {w w' : World} {g B : Nat} {vs : List Value} (h : Box w g vs) (hb : Below B w w') (hg : g < B) : Box w' g vs :=
  ⟨by have := hb.size; have := h.1; omega, fun i v hv => ⟨(hb.cell (p := ⟨g, i, none⟩) hg).trans (h.2 i v hv).1, (hb.frozen (p := ⟨g, i, none⟩) hg).trans (h.2 i v hv).2⟩⟩
theorem box_new (w : World) (vs : List Value) (t : TypeId) : Box (w.alloc (.cells vs.toArray t)) w.heap.size vs :=
  ⟨by simp, fun i v hv => ⟨by rw [World.cell?_alloc_at _ _ _ _ rfl]; simpa using hv, by rw [World.frozen?, heap_alloc_new]; simp⟩⟩
theorem Box.set {w : World} {g j : Nat} {u : Value} {vs : List Value} (h : Box w g vs) (hj : j < vs.length) : Box (w.setCell ⟨g, j, none⟩ u) g (vs.set j u) := by
  refine ⟨by simpa using h.1, fun i v hv => ?_⟩
  rw [World.frozen?_setCell]
  by_cases hij : i = j
  · subst hij
    rw [List.getElem?_set_self hj] at hv
    simp only [Option.some.injEq] at hv
    subst hv
    obtain ⟨v0, hv0⟩ : ∃ v0, vs[i]? = some v0 := ⟨vs[i], by simp [hj]⟩
    exact ⟨World.cell?_setCell_same _ _ _ (h.2 i v0 hv0).1, (h.2 i v0 hv0).2⟩
  · rw [List.getElem?_set_ne (by omega)] at hv
    exact ⟨(World.cell?_setCell_other _ _ _ _ (by simp)).trans (h.2 i v hv).1, (h.2 i v hv).2⟩
theorem Box.far {w : World} {g g' j : Nat} {u : Value} {vs : List Value} (h : Box w g vs) (hne : g ≠ g') : Box (w.setCell ⟨g', j, none⟩ u) g vs :=
  ⟨by simpa using h.1, fun i v hv => ⟨(World.cell?_setCell_other _ _ _ _ (by simp)).trans (h.2 i v hv).1, by rw [World.frozen?_setCell]; exact (h.2 i v hv).2⟩⟩

end Go.Proofs.Ytcfnomnhameleaa
/-
  A whole struct out of a block and into it, at once, however many its cells. Of no program.
-/
namespace Go.Proofs.Ytcfnomnhameleaa
open Go.RowKit

theorem take_set_up {α : Type} {l : List α} {j : Nat} {v : α} (h : j < l.length) : (l.set j v).take (j + 1) = l.take j ++ [v] := by
  rw [List.take_add_one, List.getElem?_set_self h, List.take_set_of_le (Nat.le_refl _)]
  rfl
theorem drop_set_up {α : Type} {l : List α} {j k : Nat} {v : α} (h : j < k) : (l.set j v).drop k = l.drop k := by
  rw [List.drop_set_of_lt h]
theorem box_setCells {g : Nat} : ∀ (cs : List Value) (j : Nat) (vs : List Value) (w : World), Box w g vs → j + cs.length ≤ vs.length → Box (w.setCells g j cs) g (vs.take j ++ cs ++ vs.drop (j + cs.length))
  | [], j, vs, _, h, _ => by
    have e : vs.take j ++ [] ++ vs.drop (j + ([] : List Value).length) = vs := by simp
    rw [e]
    exact h
  | v :: r, j, vs, w, h, hl => by
    simp only [List.length_cons] at hl
    have ih := box_setCells r (j + 1) (vs.set j v) (w.setCell ⟨g, j, none⟩ v) (h.set (by omega)) (by rw [List.length_set]; omega)
    rw [take_set_up (by omega), drop_set_up (by omega)] at ih
    have e : vs.take j ++ (v :: r) ++ vs.drop (j + (v :: r).length) = vs.take j ++ [v] ++ r ++ vs.drop (j + 1 + r.length) := by
      rw [List.length_cons, show j + (r.length + 1) = j + 1 + r.length by omega]
      simp
    rw [e]
    exact ih
theorem touch_setCells {F : Nat → Prop} {g : Nat} (hF : F g) : ∀ (cs : List Value) (j : Nat) (w0 w : World), Touch F w0 w → Touch F w0 (w.setCells g j cs)
  | [], _, _, _, h => h
  | v :: r, j, w0, _, h => touch_setCells hF r (j + 1) w0 _ (h.set (.inl hF) v)

section
variable {P : Program} {w : World}
theorem wpList_load_box {ops : Array Oper} {rest : List Oper} {op : Oper} {a : Act} {Q : Exit → Act → World → Prop} (hgd : op.guard = none) (ty : TypeId) (x : Operand) (ho : op.op = .load ty x)
    (g : Nat) (hx : a.eval x = .pointer (some ⟨g, 0, none⟩)) (cs : List Value) (hb : Box w g cs) (d : TypeDesc) (hu : P.underlying ty = some d) (hd : d.isRow = true) (hi : (P.info? ty).map (·.size) = some cs.length)
    (h : wpList P ops Q rest (a.put op.dst (.agg cs.toArray)) w) : wpList P ops Q (op :: rest) a w :=
  wpList_load_mid hgd ty x ho g 0 hx cs d (fun j v hv => by rw [Nat.zero_add]; exact (hb.2 j v hv).1) hu hd hi h
theorem wp_load_box {op : Oper} {a : Act} {K : Act → World → Prop} {Q : Exit → Act → World → Prop} (ty : TypeId) (x : Operand) (ho : op.op = .load ty x)
    (g : Nat) (hx : a.eval x = .pointer (some ⟨g, 0, none⟩)) (cs : List Value) (hb : Box w g cs) (d : TypeDesc) (hu : P.underlying ty = some d) (hd : d.isRow = true) (hi : (P.info? ty).map (·.size) = some cs.length)
    (h : K (a.put op.dst (.agg cs.toArray)) w) : op.wp P a w K Q :=
  wp_load_mid ty x ho g 0 hx cs d (fun j v hv => by rw [Nat.zero_add]; exact (hb.2 j v hv).1) hu hd hi h
/-- at an operation that is asked for -/
theorem wpList_load_boxG {ops : Array Oper} {rest : List Oper} {op : Oper} {a : Act} {Q : Exit → Act → World → Prop} (ty : TypeId) (x : Operand) (ho : op.op = .load ty x)
    (g : Nat) (hx : a.eval x = .pointer (some ⟨g, 0, none⟩)) (hw : Region.wanted op (yielded ops a.tmps) = true) (cs : List Value) (hb : Box w g cs) (d : TypeDesc) (hu : P.underlying ty = some d) (hd : d.isRow = true) (hi : (P.info? ty).map (·.size) = some cs.length)
    (h : wpList P ops Q rest (a.put op.dst (.agg cs.toArray)) w) : wpList P ops Q (op :: rest) a w := by
  rw [wpList, if_pos hw]
  exact .inl (wp_load_box ty x ho g hx cs hb d hu hd hi h)
theorem there_box {g j n : Nat} {vs : List Value} (hb : Box w g vs) (hl : j + n ≤ vs.length) : w.there g j n := fun i hi => by
  obtain ⟨v, hv⟩ : ∃ v, vs[j + i]? = some v := ⟨vs[j + i], by simp [show j + i < vs.length by omega]⟩
  exact ⟨by rw [(hb.2 _ v hv).1]; rfl, (hb.2 _ v hv).2⟩
theorem wpList_store_box {ops : Array Oper} {rest : List Oper} {op : Oper} {a : Act} {Q : Exit → Act → World → Prop} (hgd : op.guard = none) (ty : TypeId) (x y : Operand) (ho : op.op = .store ty x y)
    (g j : Nat) (cs vs us : List Value) (hx : a.eval x = .pointer (some ⟨g, j, none⟩)) (hy : a.eval y = .agg cs.toArray) (hb : Box w g vs) (hl : j + cs.length ≤ vs.length) (hus : us = vs.take j ++ cs ++ vs.drop (j + cs.length))
    (hi : (P.info? ty).map (·.size) = some cs.length) (h1 : cs.all (·.oneCell') = true)
    (h : ∀ w', Box w' g us → (∀ F : Nat → Prop, F g → Touch F w w') → wpList P ops Q rest (a.put op.dst undef) w') : wpList P ops Q (op :: rest) a w :=
  wpList_store_mid hgd ty x y ho g j cs.toArray hx hy (by rw [List.size_toArray]; exact there_box hb hl) (by rw [List.size_toArray]; exact hi) (all_oneCell_toArray fun v hv => List.all_eq_true.1 h1 v hv)
    (h _ (by rw [hus]; exact box_setCells cs j vs w hb hl) (fun F hF => touch_setCells hF cs j w w (Touch.refl F w)))
/-- an operation that runs to a value -/
theorem wpList_run_to {ops : Array Oper} {rest : List Oper} {o : Oper} {a : Act} {Q : Exit → Act → World → Prop} (hg : o.guard = none) (t : TypeId) (_ : o.op = .alloc t) (v : Value) (w' : World) (hrun : (execOp a.eval o).run P w = .ok (.value v) w')
    (h : wpList P ops Q rest (a.put o.dst v) w') : wpList P ops Q (o :: rest) a w := by
  refine wpList_plain hg fun K hK => ?_
  unfold Oper.wp
  rw [hrun, Oper.upon_value]
  exact hK _ _ h
/-- one cell -/
theorem box_set_one {g j : Nat} {u : Value} {vs us : List Value} (hb : Box w g vs) (hj : j < vs.length) (hus : us = vs.set j u) : Box (w.setCell ⟨g, j, none⟩ u) g us := by rw [hus]; exact hb.set hj
end

end Go.Proofs.Ytcfnomnhameleaa
/-
  What came in: a message, how many nodes, bytes, at each index. And what is asked of package message.
-/
namespace Go.Proofs.Ytcfnomnhameleaa
open Go.RowKit Go.ChangeShapes Go.WideShapes Go.Deep

structure MAsked where
  m : MsgD
  a : MsgA
  N : Int
  AX : Option Addr
  cX : Nat
  X : List Int
def askC (m : MsgD) (a : MsgA) (N : Int) (AX : Option Addr) (nX cX : Nat) : List Value := [.int .i64 m.k, .int .i64 m.f, .int .i64 m.t, .int .i64 m.d, .int .i64 m.ba, .int .i64 m.bn, .slice a.AL a.nL a.cL, .int .i64 m.ha, .int .i64 m.hr, .slice a.AhB a.nhB a.chB, .slice a.AhP a.nhP a.chP, .int .i64 m.ca, .int .i64 m.cr, .slice a.AcB a.ncB a.ccB, .slice a.AcP a.ncP a.ccP, .int .i64 m.cd, .slice a.AcS a.ncS a.ccS, .slice a.AD a.nD a.cD, .int .i64 N, .slice AX nX cX]
structure MAskOk (w : World) (q : MAsked) : Prop where
  hi : MsgIn w q.m q.a
  ok : MsgOk q.m
  few : MsgFew 140737488351232 q.a
  wN : I64 q.N
  hX : q.X.length ≤ q.cX
  mX : q.cX ≤ maxLen
  rX : Rd w q.AX (u8s q.X)
  sX : Byts q.X
theorem MAskOk.below {w w' : World} {q : MAsked} (h : MAskOk w q) (hb : Below w.heap.size w w') : MAskOk w' q := ⟨h.hi.below hb, h.ok, h.few, h.wN, h.hX, h.mX, h.rX.below hb, h.sX⟩
def MAskAt (w : World) (a : Option Addr) (i : Nat) : Prop :=
  ∃ (b off : Nat) (q : MAsked), a = some ⟨b, off, none⟩ ∧ b < w.heap.size ∧ MAskOk w q ∧ w.rangeAt b (off + i * 20) (askC q.m q.a q.N q.AX q.X.length q.cX)
def MAsks (w : World) (a : Option Addr) (len cap : Nat) : Prop := len ≤ cap ∧ cap ≤ maxLen ∧ ∀ i, i < len → MAskAt w a i
theorem range_below {w w' : World} {b o : Nat} {cs : List Value} (h : w.rangeAt b o cs) (hb : Below w.heap.size w w') (hlt : b < w.heap.size) : w'.rangeAt b o cs := fun j v hv => (hb.cell (p := ⟨b, o + j, none⟩) hlt).trans (h j v hv)
/-- what is asked at an index, in every later world -/
theorem MAskAt.all {w : World} {a : Option Addr} {i : Nat} (h : MAskAt w a i) : ∃ (b off : Nat) (q : MAsked) (nX : Nat), a = some ⟨b, off, none⟩ ∧ q.X.length = nX ∧ ∀ wX, Below w.heap.size w wX → MAskOk wX q ∧ wX.rangeAt b (off + i * 20) (askC q.m q.a q.N q.AX nX q.cX) := by
  obtain ⟨b, off, q, rfl, hlt, ok, hr⟩ := h
  exact ⟨b, off, q, _, rfl, rfl, fun wX hb => ⟨ok.below hb, range_below hr hb hlt⟩⟩

/-- rising numbers from 1 to n are no more than n -/
theorem rise_len : ∀ (S : List Int) (x n : Int), risB (x :: S) = true → (∀ y ∈ x :: S, y ≤ n) → ((x :: S).length : Int) ≤ n - x + 1
  | [], x, n, _, hb => by have := hb x (by simp); simp; omega
  | y :: S, x, n, h, hb => by
    rw [risB_cons, Bool.and_eq_true, decide_eq_true_eq] at h
    have ih := rise_len S y n h.2 fun z hz => hb z (by simp [List.mem_cons.1 hz])
    simp only [List.length_cons] at ih ⊢
    omega
theorem rise_few {S : List Int} {n : Int} (h : risB S = true) (hb : betB 1 n S = true) (hn : n ≤ 16) : S.length ≤ 16 := by
  rw [betB_iff] at hb
  cases S with
  | nil => simp
  | cons x S =>
    have h1 := rise_len S x n h fun y hy => (hb y hy).2
    have h2 := (hb x (by simp)).1
    omega
theorem mbytes_tx : Try.prog.bytesOf 99 = 48 := by kernel_rfl
/-- transactions that came in fit into memory -/
theorem txs_fit {H : Type} {enc : TypeId × Value → H} {w : World} {base : Nat} {spare : Nat → Bool} {held : Bool} {fuel : Nat} {v : Value} {x : DataW H × List MemPlace}
    (h : DataW.trod enc Try.prog w base spare held fuel 34 [v] = some x) (hw : ∀ n ∈ x.1.weights Try.prog 34, n ≤ reachBytes) : ∀ (A : Option Addr) (c n : Nat), v = .slice A n c → n ≤ 140737488351232 := by
  intro A c n hv
  rcases open_slice Try.underlying34 h with ⟨h0, _⟩ | ⟨ad, len, cap, m, k, D, Pl, h0, _, _, _, _, hz, _⟩
  · simp only [List.cons.injEq, and_true] at h0
    rw [h0] at hv
    cases hv
    omega
  · simp only [List.cons.injEq, and_true] at h0
    rw [h0] at hv
    cases hv
    have h1 := hw (((List.range n).map D).length * 48 + ((List.range (m - n)).map fun j => D (n + j)).length * 48) (by
      rw [hz, DataW.weights, Try.underlying34]
      simp only [mbytes_tx]
      refine List.mem_cons.2 (.inl ?_)
      rw [Nat.add_mul])
    rw [List.length_map, List.length_range] at h1
    unfold reachBytes at h1
    omega
theorem cells_msg : Try.prog.cellsOf 42 = 18 := by kernel_rfl
theorem mcells_batch : Try.prog.cellsOf 36 = 3 := by kernel_rfl
theorem mcells_txs : Try.prog.cellsOf 34 = 1 := by kernel_rfl

/-! ### what is asked of package message -/
/-- a message's bytes, and what bytes are read as: the program's own -/
structure MCodec (E : MsgD → Int → List Int) (D : List Int → Int → Option MsgD) : Prop where
  small : ∀ m n, messB m n = true → (E m n).length ≤ 1000000
  byts : ∀ m n, messB m n = true → Byts (E m n)
  put : ∀ m n, messB m n = true → D (E m n) n = some m
  get : ∀ x m n, Byts x → D x n = some m → messB m n = true ∧ x = E m n
/-- a message that may be has short lists -/
theorem mess_short {m : MsgD} {n : Int} (h : messB m n = true) : m.L.length ≤ 16 ∧ m.hB.length ≤ 16 ∧ m.hP.length ≤ 16 ∧ m.cB.length ≤ 16 ∧ m.cP.length ≤ 16 ∧ m.cS.length ≤ 16 ∧ m.D.length ≤ 16 := by
  unfold messB at h
  rw [Bool.and_eq_true, Bool.and_eq_true, decide_eq_true_eq] at h
  obtain ⟨hid, hform, honly⟩ := h
  have hm : 1 ≤ n ∧ n ≤ 16 := by
    unfold idsB at hid
    rw [decide_eq_true_eq] at hid
    have h1 := hid.1
    simp only [mayB, decide_eq_true_eq] at h1
    omega
  have eL := congrArg (fun m => m.L.length) honly
  have ehB := congrArg (fun m => m.hB.length) honly
  have ehP := congrArg (fun m => m.hP.length) honly
  have ecB := congrArg (fun m => m.cB.length) honly
  have ecP := congrArg (fun m => m.cP.length) honly
  have ecS := congrArg (fun m => m.cS.length) honly
  have eD := congrArg (fun m => m.D.length) honly
  clear honly
  unfold onlyM zeroM at eL ehB ehP ecB ecP ecS eD
  unfold formB at hform
  by_cases h1 : m.k = 1 ∨ m.k = 3
  · simp only [if_pos h1, List.length_nil] at eL ehB ehP ecB ecP ecS eD hform
    rw [Bool.and_eq_true, Bool.and_eq_true] at hform
    have := (batB_yes hform.2.1).2.2.2.1
    omega
  · by_cases h2 : m.k = 2 ∨ m.k = 5
    · simp only [if_neg h1, if_pos h2, List.length_nil] at eL ehB ehP ecB ecP ecS eD hform
      omega
    · by_cases h4 : m.k = 4
      · simp only [if_neg h1, if_neg h2, if_pos h4, List.length_nil] at eL ehB ehP ecB ecP ecS eD hform
        rw [Bool.and_eq_true, Bool.and_eq_true] at hform
        have hh := hform.2.1
        simp only [hdrB, decide_eq_true_eq] at hh
        have q1 := (digsB_iff.1 hh.2.2.2.1).1
        have q2 := (digsB_iff.1 hh.2.2.2.2.1).1
        omega
      · by_cases h6 : m.k = 6
        · simp only [if_neg h1, if_neg h2, if_neg h4, if_pos h6, List.length_nil] at eL ehB ehP ecB ecP ecS eD hform
          have hc := hform
          simp only [certB, decide_eq_true_eq] at hc
          have hh := hc.1
          simp only [hdrB, decide_eq_true_eq] at hh
          have q1 := (digsB_iff.1 hh.2.2.2.1).1
          have q2 := (digsB_iff.1 hh.2.2.2.2.1).1
          have q3 := rise_few hc.2.2.1 hc.2.2.2.1 hm.2
          omega
        · by_cases h7 : m.k = 7 ∨ m.k = 8
          · simp only [if_neg h1, if_neg h2, if_neg h4, if_neg h6, if_pos h7, List.length_nil] at eL ehB ehP ecB ecP ecS eD hform
            rw [Bool.and_eq_true] at hform
            have q1 := (digsB_iff.1 hform.2).1
            omega
          · simp only [if_neg h1, if_neg h2, if_neg h4, if_neg h6, if_neg h7] at hform
            cases hform
theorem mess_few {m : MsgD} {n : Int} {a : MsgA} {w : World} (h : messB m n = true) (hi : MsgIn w m a) : MsgFew 1000000 a := by
  obtain ⟨h1, h2, h3, h4, h5, h6, h7⟩ := mess_short h
  have := hi.zL
  have := hi.zhB
  have := hi.zhP
  have := hi.zcB
  have := hi.zcP
  have := hi.zcS
  have := hi.zD
  constructor <;> omega

end Go.Proofs.Ytcfnomnhameleaa
