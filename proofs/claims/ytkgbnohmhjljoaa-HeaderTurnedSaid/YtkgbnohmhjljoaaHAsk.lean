/-
  A slice of what is asked (a certificate, how many nodes, bytes) that came in: its cells at each index, and the lists that they show. And what is asked of package header.
-/
import Derived.Test.YtkgbnohmhjljoaaHCert
import Derived.Test.YtkgbnohmhjljoaaHParse
import Derived.Test.YtkgbnohmhjljoaaOpen
namespace Go.Proofs.Ytkgbnohmhjljoaa
open Go.RowKit Go.ChangeShapes Go.WideShapes Go.Deep

def I64 (x : Int) : Prop := -9223372036854775808 ≤ x ∧ x ≤ 9223372036854775807
def I64s (l : List Int) : Prop := ∀ x ∈ l, I64 x

/-- numbers in a slice -/
structure NumsIn (w : World) (A : Option Addr) (c n : Nat) (l : List Int) : Prop where
  hz : l.length = n
  hr : Rd w A (i64s l)
  hc : n ≤ c
  hm : c ≤ maxLen
  hi : I64s l
theorem NumsIn.below {w w' : World} {A : Option Addr} {c n : Nat} {l : List Int} (h : NumsIn w A c n l) (hb : Below w.heap.size w w') : NumsIn w' A c n l := ⟨h.hz, h.hr.below hb, h.hc, h.hm, h.hi⟩
theorem NumsIn.own {w : World} {B : Nat} {A : Option Addr} {c n : Nat} {l : List Int} (h : w.ownsRow B 3 1 (.slice A n c) n (i64s l)) (hi : I64s l) : NumsIn w A c n l := by
  obtain ⟨A', c', hv, hc, hm, hr, _, hl⟩ := own_val h
  cases hv
  exact ⟨by rw [← hl, i64s_length], hr, hc, hm, hi⟩

/-- what is asked at one index -/
structure HAsked where
  a : Int
  r : Int
  AB : Option Addr
  cB : Nat
  B : List Int
  AP : Option Addr
  cP : Nat
  P : List Int
  d : Int
  AS : Option Addr
  cS : Nat
  S : List Int
  N : Int
  AX : Option Addr
  cX : Nat
  X : List Int

structure HAskOk (w : World) (q : HAsked) : Prop where
  wa : I64 q.a
  wr : I64 q.r
  wd : I64 q.d
  wN : I64 q.N
  nB : NumsIn w q.AB q.cB q.B.length q.B
  nP : NumsIn w q.AP q.cP q.P.length q.P
  nS : NumsIn w q.AS q.cS q.S.length q.S
  zB : q.B.length ≤ 140737488351232
  zP : q.P.length ≤ 140737488351232
  zS : q.S.length ≤ 140737488351232
  hX : q.X.length ≤ q.cX
  mX : q.cX ≤ maxLen
  rX : Rd w q.AX (u8s q.X)
  sX : Byts q.X

def HAskAt (w : World) (a : Option Addr) (i : Nat) : Prop :=
  ∃ (b off : Nat) (q : HAsked), a = some ⟨b, off, none⟩ ∧ b < w.heap.size ∧ HAskOk w q ∧
    w.cell? ⟨b, off + i * 8, none⟩ = some (.int .i64 q.a) ∧ w.cell? ⟨b, off + i * 8 + 1, none⟩ = some (.int .i64 q.r) ∧
    w.cell? ⟨b, off + i * 8 + 2, none⟩ = some (.slice q.AB q.B.length q.cB) ∧ w.cell? ⟨b, off + i * 8 + 3, none⟩ = some (.slice q.AP q.P.length q.cP) ∧
    w.cell? ⟨b, off + i * 8 + 4, none⟩ = some (.int .i64 q.d) ∧ w.cell? ⟨b, off + i * 8 + 5, none⟩ = some (.slice q.AS q.S.length q.cS) ∧
    w.cell? ⟨b, off + i * 8 + 6, none⟩ = some (.int .i64 q.N) ∧ w.cell? ⟨b, off + i * 8 + 7, none⟩ = some (.slice q.AX q.X.length q.cX)

def HAsks (w : World) (a : Option Addr) (len cap : Nat) : Prop := len ≤ cap ∧ cap ≤ maxLen ∧ ∀ i, i < len → HAskAt w a i

theorem cells_hask : Try.prog.cellsOf 30 = 8 := by kernel_rfl
theorem cells_cert : Try.prog.cellsOf 27 = 6 := by kernel_rfl
theorem cells_hdr : Try.prog.cellsOf 25 = 4 := by kernel_rfl
theorem bytes_int : Try.prog.bytesOf 3 = 8 := by kernel_rfl

set_option maxRecDepth 100000 in
set_option maxHeartbeats 8000000 in
theorem open_hasks {H : Type} {enc : TypeId × Value → H} {w : World} {base : Nat} {spare : Nat → Bool} {held : Bool} {fuel : Nat} {a : Option Addr} {len cap : Nat} {z : DataW H × List MemPlace}
    (h : DataW.trod enc Try.prog w base spare held fuel 22 [.slice a len cap] = some z) (hw : ∀ n ∈ z.1.weights Try.prog 22, n ≤ reachBytes) : HAsks w a len cap := by
  rcases open_slice Try.underlying22 h with ⟨hcs, _⟩ | ⟨ad, len', cap', m, n, D, Pl, hcs, _, hl, hm, hmm, hz, hi⟩
  · simp at hcs
    obtain ⟨rfl, rfl, rfl⟩ := hcs
    exact ⟨by omega, by unfold maxLen; omega, fun i hi => absurd hi (by omega)⟩
  · simp at hcs
    obtain ⟨rfl, rfl, rfl⟩ := hcs
    refine ⟨hl, hm, fun i hil => ?_⟩
    have him : i < m := by rw [hmm]; split <;> omega
    have hspot : ad.spot = none := by
      obtain ⟨cs, hc, _⟩ := hi 0 (by omega)
      rw [cells_hask] at hc
      obtain ⟨_, hcl, hat⟩ := World.cells?_some hc
      have h0 := hat 0 (by omega)
      rw [List.getElem?_eq_getElem (by omega)] at h0
      have := World.cell?_spot h0
      simpa [Addr.add] using this
    obtain ⟨cs, hc, ht⟩ := hi i him
    rw [cells_hask] at hc
    obtain ⟨_, hcl, hat⟩ := World.cells?_some hc
    obtain ⟨ys, n', _, hag, hlen, hyl, hf⟩ := DataW.trod_struct Try.underlying30 ht
    match cs, hcl with
    | [c0, c1, c2, c3, c4, c5, c6, c7], _ =>
      match ys, hyl with
      | [y0, y1, y2], _ =>
        have f0 := hf 0 _ rfl
        have f1 := hf 1 _ rfl
        have f2 := hf 2 _ rfl
        simp [cells_cert, cells_int, cells_u8s] at f0 f1 f2
        have hD : D i = .agg [y0.1, y1.1, y2.1] := by
          have := congrArg Prod.fst hag
          simpa using this
        have hwi : ∀ n ∈ (D i).weights Try.prog 30, n ≤ reachBytes := fun n hn => hw n (by
          rw [hz]
          exact weights_slice Try.underlying22 (List.mem_map.2 ⟨i, List.mem_range.2 hil, rfl⟩) hn)
        have hw0 : ∀ n ∈ y0.1.weights Try.prog 27, n ≤ reachBytes := fun n hn => hwi n (by
          rw [hD, DataW.weights, Try.underlying30]
          exact DataW.weights_mem_each (j := 0) (t := 27) (d := y0.1) rfl rfl n hn)
        obtain ⟨rN, eN, _, wrN⟩ := DataW.trod_int Try.underlying3 f1
        obtain ⟨AX, cX, X, eX, hX, mX, rX, sX⟩ := open_nums Try.underlying28 Try.underlying5 cells_u8 f2
        obtain ⟨zs, n2, _, hag2, hlen2, hzl, hf2⟩ := DataW.trod_struct Try.underlying27 f0
        match zs, hzl with
        | [z0, z1, z2], _ =>
          have g0 := hf2 0 _ rfl
          have g1 := hf2 1 _ rfl
          have g2 := hf2 2 _ rfl
          simp [cells_hdr, cells_int, cells_ints] at g0 g1 g2
          have hD2 : y0.1 = .agg [z0.1, z1.1, z2.1] := by
            have := congrArg Prod.fst hag2
            simpa using this
          have hw2 : ∀ n ∈ z2.1.weights Try.prog 23, n ≤ reachBytes := fun n hn => hw0 n (by
            rw [hD2, DataW.weights, Try.underlying27]
            exact DataW.weights_mem_each (j := 2) (t := 23) (d := z2.1) rfl rfl n hn)
          have hw3 : ∀ n ∈ z0.1.weights Try.prog 25, n ≤ reachBytes := fun n hn => hw0 n (by
            rw [hD2, DataW.weights, Try.underlying27]
            exact DataW.weights_mem_each (j := 0) (t := 25) (d := z0.1) rfl rfl n hn)
          obtain ⟨rd, ed, _, wrd⟩ := DataW.trod_int Try.underlying3 g1
          obtain ⟨AS, cS, S, eS, hS, mS, rS, sS, zS⟩ := open_nums_fit Try.underlying23 Try.underlying3 cells_int bytes_int (by decide) g2 hw2
          obtain ⟨us, n3, _, hag3, hlen3, hul, hf3⟩ := DataW.trod_struct Try.underlying25 g0
          match us, hul with
          | [u0, u1, u2, u3], _ =>
            have k0 := hf3 0 _ rfl
            have k1 := hf3 1 _ rfl
            have k2 := hf3 2 _ rfl
            have k3 := hf3 3 _ rfl
            simp [cells_int, cells_ints] at k0 k1 k2 k3
            have hD3 : z0.1 = .agg [u0.1, u1.1, u2.1, u3.1] := by
              have := congrArg Prod.fst hag3
              simpa using this
            have hw4 : ∀ n ∈ u2.1.weights Try.prog 23, n ≤ reachBytes := fun n hn => hw3 n (by
              rw [hD3, DataW.weights, Try.underlying25]
              exact DataW.weights_mem_each (j := 2) (t := 23) (d := u2.1) rfl rfl n hn)
            have hw5 : ∀ n ∈ u3.1.weights Try.prog 23, n ≤ reachBytes := fun n hn => hw3 n (by
              rw [hD3, DataW.weights, Try.underlying25]
              exact DataW.weights_mem_each (j := 3) (t := 23) (d := u3.1) rfl rfl n hn)
            obtain ⟨ra, ea, _, wra⟩ := DataW.trod_int Try.underlying3 k0
            obtain ⟨rr, er, _, wrr⟩ := DataW.trod_int Try.underlying3 k1
            obtain ⟨AB, cB, B, eB, hB, mB, rB, sB, zB⟩ := open_nums_fit Try.underlying23 Try.underlying3 cells_int bytes_int (by decide) k2 hw4
            obtain ⟨AP, cP, P, eP, hP, mP, rP, sP, zP⟩ := open_nums_fit Try.underlying23 Try.underlying3 cells_int bytes_int (by decide) k3 hw5
            simp at eN ed ea er
            subst eN ed ea er eX eS eB eP
            have a0 := hat 0 (by omega)
            have a1 := hat 1 (by omega)
            have a2 := hat 2 (by omega)
            have a3 := hat 3 (by omega)
            have a4 := hat 4 (by omega)
            have a5 := hat 5 (by omega)
            have a6 := hat 6 (by omega)
            have a7 := hat 7 (by omega)
            rw [Addr.add_add] at a0 a1 a2 a3 a4 a5 a6 a7
            obtain ⟨b, off, spot⟩ := ad
            subst hspot
            simp only [Addr.add_lit] at a0 a1 a2 a3 a4 a5 a6 a7
            exact ⟨b, off, ⟨ra, rr, AB, cB, B, AP, cP, P, rd, AS, cS, S, rN, AX, cX, X⟩, rfl, lt_of_cell a0,
              ⟨wf_i64 wra, wf_i64 wrr, wf_i64 wrd, wf_i64 wrN, ⟨rfl, rB, hB, mB, fun x hx => wf_i64 (sB x hx)⟩, ⟨rfl, rP, hP, mP, fun x hx => wf_i64 (sP x hx)⟩, ⟨rfl, rS, hS, mS, fun x hx => wf_i64 (sS x hx)⟩, zB, zP, zS, hX, mX, rX, fun n hn => wf_u8 (sX n hn)⟩, a0, a1, a2, a3, a4, a5, a6, a7⟩

theorem HAskOk.below {w w' : World} {q : HAsked} (h : HAskOk w q) (hb : Below w.heap.size w w') : HAskOk w' q :=
  ⟨h.wa, h.wr, h.wd, h.wN, h.nB.below hb, h.nP.below hb, h.nS.below hb, h.zB, h.zP, h.zS, h.hX, h.mX, h.rX.below hb, h.sX⟩
/-- the cells of what is asked, in every later world -/
theorem HAskAt.all {w : World} {a : Option Addr} {i : Nat} (h : HAskAt w a i) : ∃ (b off : Nat) (q : HAsked) (nB nP nS nX : Nat), a = some ⟨b, off, none⟩ ∧ q.B.length = nB ∧ q.P.length = nP ∧ q.S.length = nS ∧ q.X.length = nX ∧ ∀ wX, Below w.heap.size w wX → HAskOk wX q ∧
    wX.cell? ⟨b, off + i * 8, none⟩ = some (.int .i64 q.a) ∧ wX.cell? ⟨b, off + i * 8 + 1, none⟩ = some (.int .i64 q.r) ∧
    wX.cell? ⟨b, off + i * 8 + 2, none⟩ = some (.slice q.AB nB q.cB) ∧ wX.cell? ⟨b, off + i * 8 + 3, none⟩ = some (.slice q.AP nP q.cP) ∧
    wX.cell? ⟨b, off + i * 8 + 4, none⟩ = some (.int .i64 q.d) ∧ wX.cell? ⟨b, off + i * 8 + 5, none⟩ = some (.slice q.AS nS q.cS) ∧
    wX.cell? ⟨b, off + i * 8 + 6, none⟩ = some (.int .i64 q.N) ∧ wX.cell? ⟨b, off + i * 8 + 7, none⟩ = some (.slice q.AX nX q.cX) := by
  obtain ⟨b, off, q, rfl, hlt, ok, c0, c1, c2, c3, c4, c5, c6, c7⟩ := h
  exact ⟨b, off, q, _, _, _, _, rfl, rfl, rfl, rfl, rfl, fun wX hb => ⟨ok.below hb, (hb.cell (p := ⟨b, _, none⟩) hlt).trans c0, (hb.cell (p := ⟨b, _, none⟩) hlt).trans c1, (hb.cell (p := ⟨b, _, none⟩) hlt).trans c2, (hb.cell (p := ⟨b, _, none⟩) hlt).trans c3, (hb.cell (p := ⟨b, _, none⟩) hlt).trans c4, (hb.cell (p := ⟨b, _, none⟩) hlt).trans c5, (hb.cell (p := ⟨b, _, none⟩) hlt).trans c6, (hb.cell (p := ⟨b, _, none⟩) hlt).trans c7⟩⟩

/-- the two lists of the header that is asked at an index are short -/
def HLight (w : World) (a : Option Addr) (i : Nat) : Prop := ∀ (b off : Nat) (A : Option Addr) (n c : Nat), a = some ⟨b, off, none⟩ →
  (w.cell? ⟨b, off + i * 8 + 2, none⟩ = some (.slice A n c) → n ≤ 499) ∧ (w.cell? ⟨b, off + i * 8 + 3, none⟩ = some (.slice A n c) → n ≤ 499)
theorem hlight_next {w : World} {b off k : Nat} {AB AP : Option Addr} {nB cB nP cP : Nat} (h : ∀ p, p < k → HLight w (some ⟨b, off, none⟩) p) (c2 : w.cell? ⟨b, off + k * 8 + 2, none⟩ = some (.slice AB nB cB)) (c3 : w.cell? ⟨b, off + k * 8 + 3, none⟩ = some (.slice AP nP cP)) (hB : nB ≤ 499) (hP : nP ≤ 499) :
    ∀ p, p < k + 1 → HLight w (some ⟨b, off, none⟩) p := fun p hp => by
  by_cases hpk : p < k
  · exact h p hpk
  · have e : p = k := by omega
    subst e
    intro b' off' A n c hab
    cases hab
    constructor
    · intro h2; rw [c2] at h2; cases h2; exact hB
    · intro h2; rw [c3] at h2; cases h2; exact hP

/-! ### what is asked of package header -/
/-- a header's two lists -/
structure HdrIn (w : World) (AB : Option Addr) (cB nB : Nat) (B : List Int) (AP : Option Addr) (cP nP : Nat) (P : List Int) : Prop where
  hB : NumsIn w AB cB nB B
  hP : NumsIn w AP cP nP P
  lB : nB ≤ 1000000
  lP : nP ≤ 1000000
theorem HdrIn.below {w w' : World} {AB AP : Option Addr} {cB nB cP nP : Nat} {B P : List Int} (h : HdrIn w AB cB nB B AP cP nP P) (hb : Below w.heap.size w w') : HdrIn w' AB cB nB B AP cP nP P := ⟨h.hB.below hb, h.hP.below hb, h.lB, h.lP⟩

structure HContracts : Prop where
  check_yes : ∀ (a r : Int) (AB : Option Addr) (cB nB : Nat) (B : List Int) (AP : Option Addr) (cP nP : Nat) (P : List Int) (n : Int) (w : World), hdrB a r B P n = true → HdrIn w AB cB nB B AP cP nP P → I64 n →
    Calls Try.prog 12 #[.agg #[.int .i64 a, .int .i64 r, .slice AB nB cB, .slice AP nP cP], .int .i64 n] w (Tells w.heap.size w (.int .i64 0))
  check_no : ∀ (a r : Int) (AB : Option Addr) (cB nB : Nat) (B : List Int) (AP : Option Addr) (cP nP : Nat) (P : List Int) (n : Int) (w : World), hdrB a r B P n = false → HdrIn w AB cB nB B AP cP nP P → I64 n →
    Calls Try.prog 12 #[.agg #[.int .i64 a, .int .i64 r, .slice AB nB cB, .slice AP nP cP], .int .i64 n] w (Tells w.heap.size w (.int .i64 1))
  cert_yes : ∀ (a r : Int) (AB : Option Addr) (cB nB : Nat) (B : List Int) (AP : Option Addr) (cP nP : Nat) (P : List Int) (d : Int) (AS : Option Addr) (cS nS : Nat) (S : List Int) (n : Int) (w : World), certB a r B P d S n = true → HdrIn w AB cB nB B AP cP nP P → NumsIn w AS cS nS S → nS ≤ 1000000 → I64 n →
    Calls Try.prog 13 #[.agg #[.int .i64 a, .int .i64 r, .slice AB nB cB, .slice AP nP cP, .int .i64 d, .slice AS nS cS], .int .i64 n] w (Tells w.heap.size w (.int .i64 0))
  cert_no : ∀ (a r : Int) (AB : Option Addr) (cB nB : Nat) (B : List Int) (AP : Option Addr) (cP nP : Nat) (P : List Int) (d : Int) (AS : Option Addr) (cS nS : Nat) (S : List Int) (n : Int) (w : World), certB a r B P d S n = false → HdrIn w AB cB nB B AP cP nP P → NumsIn w AS cS nS S → nS ≤ 1000000 → I64 n →
    Calls Try.prog 13 #[.agg #[.int .i64 a, .int .i64 r, .slice AB nB cB, .slice AP nP cP, .int .i64 d, .slice AS nS cS], .int .i64 n] w (Tells w.heap.size w (.int .i64 1))
  bytes_yes : ∀ (a r : Int) (AB : Option Addr) (cB nB : Nat) (B : List Int) (AP : Option Addr) (cP nP : Nat) (P : List Int) (w : World), wideB a r B P = true → HdrIn w AB cB nB B AP cP nP P →
    Calls Try.prog 18 #[.agg #[.int .i64 a, .int .i64 r, .slice AB nB cB, .slice AP nP cP]] w (Made2 w.heap.size 5 w (u8s (headBytes a r B P)) (.int .i64 0))
  bytes_no : ∀ (a r : Int) (AB : Option Addr) (cB nB : Nat) (B : List Int) (AP : Option Addr) (cP nP : Nat) (P : List Int) (w : World), wideB a r B P = false → HdrIn w AB cB nB B AP cP nP P →
    Calls Try.prog 18 #[.agg #[.int .i64 a, .int .i64 r, .slice AB nB cB, .slice AP nP cP]] w (Tells w.heap.size w (.tuple #[.slice none 0 0, .int .i64 1]))
  parse_yes : ∀ (A : Option Addr) (c n : Nat) (zs : List Int) (a r : Int) (B P : List Int) (w : World), parseH zs = some (a, r, B, P) → zs.length = n → Rd w A (u8s zs) → Byts zs → n ≤ c → c ≤ maxLen → n ≤ 1000000 →
    Calls Try.prog 23 #[.slice A n c] w fun e w' => ∃ AB cB AP cP, e = .returned (.tuple #[.agg #[.int .i64 a, .int .i64 r, .slice AB B.length cB, .slice AP P.length cP], .int .i64 0]) ∧
      w'.ownsRow w.heap.size 3 1 (.slice AB B.length cB) B.length (i64s B) ∧ w'.ownsRow w.heap.size 3 1 (.slice AP P.length cP) P.length (i64s P) ∧ (∀ k, (Value.slice AB B.length cB).ownBlock = some k → (Value.slice AP P.length cP).ownBlock ≠ some k) ∧ Below w.heap.size w w'
  parse_no : ∀ (A : Option Addr) (c n : Nat) (zs : List Int) (w : World), parseH zs = none → zs.length = n → Rd w A (u8s zs) → Byts zs → n ≤ c → c ≤ maxLen → n ≤ 1000000 →
    Calls Try.prog 23 #[.slice A n c] w (Tells w.heap.size w (.tuple #[.agg #[.int .i64 0, .int .i64 0, .slice none 0 0, .slice none 0 0], .int .i64 1]))

theorem hnum_any (n : Int) (w : World) : Calls Try.prog 11 #[.int .i64 n] w fun e w' => e = .returned (.int .i64 n) ∧ w = w' := by
  go_enter Try.func11, Try.ntmps11
  go_wp2
  go_ret
  exact ⟨rfl, rfl⟩
theorem eqBytes_isH (b : Bool) (A A' : Option Addr) (c c' n n' : Nat) (L M : List Int) (w : World) (hb : decide (L = M) = b) (hz : L.length = n) (hz' : M.length = n') (hr : Rd w A (u8s L)) (hr' : Rd w A' (u8s M)) (hn : n ≤ 1073741824) (hn' : n' ≤ 1073741824) :
    Calls Try.prog 20 #[.slice A n c, .slice A' n' c'] w fun e w' => e = .returned (.bool b) ∧ ∃ d, w' = w.drewN d :=
  hb ▸ eqBytes_any A A' c c' n n' L M w hz hz' hr hr' hn hn'
/-- the cells of a new header's block, in every later world -/
def HBox (w : World) (g : Nat) (a r : Int) (vB vP : Value) : Prop :=
  w.cell? ⟨g, 0, none⟩ = some (.int .i64 a) ∧ w.cell? ⟨g, 1, none⟩ = some (.int .i64 r) ∧ w.cell? ⟨g, 2, none⟩ = some vB ∧ w.cell? ⟨g, 3, none⟩ = some vP
theorem hbox_new {w w1 : World} {a r : Int} {vB vP : Value} (h : w1 = w.alloc (.cells #[.int .i64 a, .int .i64 r, vB, vP] 25)) : ∀ wX, Below w1.heap.size w1 wX → HBox wX w.heap.size a r vB vP := by
  subst h
  intro wX hb
  have hs : w.heap.size < (w.alloc (.cells #[.int .i64 a, .int .i64 r, vB, vP] 25)).heap.size := by simp
  refine ⟨(hb.cell (p := ⟨w.heap.size, 0, none⟩) hs).trans ?_, (hb.cell (p := ⟨w.heap.size, 1, none⟩) hs).trans ?_, (hb.cell (p := ⟨w.heap.size, 2, none⟩) hs).trans ?_, (hb.cell (p := ⟨w.heap.size, 3, none⟩) hs).trans ?_⟩
  all_goals
    rw [World.cell?_alloc_at _ _ _ _ rfl]
    rfl
theorem wide_i64 {a r : Int} {B P : List Int} (h : wideB a r B P = true) : I64s B ∧ I64s P ∧ B.length ≤ 8 ∧ P.length ≤ 16 := by
  obtain ⟨_, _, ⟨b0, b1⟩, p0, p1⟩ := wide_all h
  exact ⟨fun x hx => by have := b1 x hx; unfold I64; omega, fun x hx => by have := p1 x hx; unfold I64; omega, by omega, by omega⟩

/-! ### what wakes the statements -/
theorem wake_mayH : wideB 1 1 [] [] = true := by decide
set_option maxRecDepth 100000 in
set_option maxHeartbeats 800000 in
theorem hwakes_any (K : HContracts) (w : World) : Calls Try.prog 17 #[] w (Tells w.heap.size w (.bool true)) := by
  have HM := Lib.hid wake_mayH
  have HPA := Lib.hid (parseH_put wake_mayH)
  have hsmall := head_small wake_mayH
  obtain ⟨nb, hnb⟩ : ∃ nb, (headBytes 1 1 [] []).length = nb := ⟨_, rfl⟩
  rw [hnb] at hsmall
  have HNB := Lib.hid hnb
  clear hnb
  have hin : ∀ w : World, HdrIn w none 0 0 [] none 0 0 [] := fun w => ⟨⟨rfl, Rd.nil _ _, Nat.le_refl _, by simp [maxLen], fun x hx => by simp at hx⟩, ⟨rfl, Rd.nil _ _, Nat.le_refl _, by simp [maxLen], fun x hx => by simp at hx⟩, by omega, by omega⟩
  go_enter Try.func17, Try.ntmps17
  go_wp2_with fail
  refine (K.bytes_yes 1 1 none 0 0 [] none 0 0 [] _ HM.out (hin _)).mono ?_
  rintro e w2 ⟨v2, rfl, ho2, hb2⟩
  have ho2b := own_cast ho2 ((u8s_length _).trans HNB.out)
  obtain ⟨A2, d2, rfl, hd2, hm2, hr2, _, hl2⟩ := own_val ho2b
  clear hl2 ho2 ho2b
  go_wp2_with fail
  refine (K.parse_yes A2 d2 nb _ 1 1 [] [] _ HPA.out HNB.out hr2 (headBytes_byts _ _ _ _) hd2 hm2 (by omega)).mono ?_
  rintro e w3 ⟨AB, cB, AP, cP, rfl, _, _, _, hq3⟩
  have hb3 := hb2.trans (hq3.mono hb2.size)
  go_wp2_with fail
  refine (hnum_any _ _).mono ?_
  rintro e w' ⟨rfl, rfl⟩
  go_wp2_with fail
  refine (hnum_any _ _).mono ?_
  rintro e w' ⟨rfl, rfl⟩
  go_wp2_with fail
  go_ret
  exact ⟨rfl, hb3.alloc hb3.size _⟩

end Go.Proofs.Ytkgbnohmhjljoaa
