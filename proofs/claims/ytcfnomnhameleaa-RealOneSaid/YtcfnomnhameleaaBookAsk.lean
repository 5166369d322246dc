/-
  What a book is asked: the acts that came in, their cells and lists; what of them is let go; the acts' kinds; bytes written over.
-/
import Derived.Test.YtcfnomnhameleaaZA
import Derived.Test.YtcfnomnhameleaaZG
namespace Go.Proofs.Ytcfnomnhameleaa
open Go.RowKit Go.ChangeShapes Go.WideShapes Go.Deep

/-- an act -/
structure ActD where
  k : Int
  who : Int
  d : Int
  AB : Option Addr
  cB : Nat
  B : List Int

structure ActOk (w : World) (q : ActD) : Prop where
  wk : -9223372036854775808 ≤ q.k ∧ q.k ≤ 9223372036854775807
  ww : -9223372036854775808 ≤ q.who ∧ q.who ≤ 9223372036854775807
  wd : -9223372036854775808 ≤ q.d ∧ q.d ≤ 9223372036854775807
  hB : q.B.length ≤ q.cB
  mB : q.cB ≤ maxLen
  rB : Rd w q.AB (u8s q.B)
  sB : Byts q.B
  zB : q.B.length ≤ 140737488351232

def ActAt (w : World) (a : Option Addr) (i : Nat) : Prop :=
  ∃ (b off : Nat) (q : ActD), a = some ⟨b, off, none⟩ ∧ b < w.heap.size ∧ ActOk w q ∧
    w.cell? ⟨b, off + i * 4, none⟩ = some (.int .i64 q.k) ∧ w.cell? ⟨b, off + i * 4 + 1, none⟩ = some (.int .i64 q.who) ∧
    w.cell? ⟨b, off + i * 4 + 2, none⟩ = some (.int .i64 q.d) ∧ w.cell? ⟨b, off + i * 4 + 3, none⟩ = some (.slice q.AB q.B.length q.cB)

def Acts (w : World) (a : Option Addr) (len cap : Nat) : Prop := len ≤ cap ∧ cap ≤ maxLen ∧ ∀ i, i < len → ActAt w a i

theorem open_nums_sized {H : Type} {enc : TypeId × Value → H} {P : Program} {w : World} {base : Nat} {spare : Nat → Bool} {held : Bool} {t e : TypeId} {fuel : Nat} {v : Value} {x : DataW H × List MemPlace} {k : IntKind} (ht : P.underlying t = some (.slice e)) (he : P.underlying e = some (.int k)) (hc : P.cellsOf e = 1) (hby : P.bytesOf e = 1)
    (h : DataW.trod enc P w base spare held fuel t [v] = some x) (hw : ∀ n ∈ x.1.weights P t, n ≤ reachBytes) :
    ∃ (A : Option Addr) (c : Nat) (zs : List Int), v = .slice A zs.length c ∧ zs.length ≤ c ∧ c ≤ maxLen ∧ Rd w A (zs.map (Value.int k)) ∧ (∀ n ∈ zs, (Lit.int k n).wf = true) ∧ zs.length ≤ 140737488351232 := by
  have hsz : ∀ a len cap, v = .slice (some a) len cap → len ≤ 140737488351232 := fun a len cap hv => by
    rcases open_ints ht he hc h with ⟨h0, _⟩ | ⟨a', len', cap', zs, h0, _, hl, hm, hz, hx, _, _⟩
    · simp only [List.cons.injEq, and_true] at h0
      rw [h0] at hv; cases hv
    · simp only [List.cons.injEq, and_true] at h0
      rw [h0] at hv
      cases hv
      have hlen : len ≤ zs.length := by rw [hz]; split <;> omega
      have := hw ((len + (zs.length - len)) * 1) (by
        rw [hx, DataW.weights, ht]
        simp only [hby]
        refine List.mem_cons.2 (.inl ?_)
        simp [lits]
        omega)
      unfold reachBytes at this
      omega
  obtain ⟨A, c, zs, rfl, h1, h2, h3, h4⟩ := open_nums ht he hc h
  refine ⟨A, c, zs, rfl, h1, h2, h3, h4, ?_⟩
  cases A with
  | none =>
    rcases Nat.eq_zero_or_pos zs.length with h0 | h0
    · omega
    · obtain ⟨b, off, he, _⟩ := h3.open_ (by simpa using h0)
      cases he
  | some a => exact hsz a _ _ rfl
theorem bytes_u8 : Try.prog.bytesOf 5 = 1 := by kernel_rfl
theorem ActOk.below {w w' : World} {q : ActD} (h : ActOk w q) (hb : Below w.heap.size w w') : ActOk w' q := ⟨h.wk, h.ww, h.wd, h.hB, h.mB, h.rB.below hb, h.sB, h.zB⟩
/-- an act's cells and bytes, in every later world -/
theorem ActAt.all {w : World} {a : Option Addr} {i : Nat} (h : ActAt w a i) : ∃ (b off : Nat) (q : ActD) (nB : Nat), a = some ⟨b, off, none⟩ ∧ q.B.length = nB ∧ nB ≤ q.cB ∧ q.cB ≤ maxLen ∧ nB ≤ 140737488351232 ∧ b < w.heap.size ∧ ∀ wX, Below w.heap.size w wX → ActOk wX q ∧
    wX.cell? ⟨b, off + i * 4, none⟩ = some (.int .i64 q.k) ∧ wX.cell? ⟨b, off + i * 4 + 1, none⟩ = some (.int .i64 q.who) ∧
    wX.cell? ⟨b, off + i * 4 + 2, none⟩ = some (.int .i64 q.d) ∧ wX.cell? ⟨b, off + i * 4 + 3, none⟩ = some (.slice q.AB nB q.cB) := by
  obtain ⟨b, off, q, rfl, hlt, ok, c0, c1, c2, c3⟩ := h
  exact ⟨b, off, q, _, rfl, rfl, ok.hB, ok.mB, ok.zB, hlt, fun wX hb => ⟨ok.below hb, (hb.cell (p := ⟨b, _, none⟩) hlt).trans c0, (hb.cell (p := ⟨b, _, none⟩) hlt).trans c1, (hb.cell (p := ⟨b, _, none⟩) hlt).trans c2, (hb.cell (p := ⟨b, _, none⟩) hlt).trans c3⟩⟩

/-- the bytes of the act at an index are few, in whatever world its cells are the same -/
def Few (w : World) (a : Option Addr) (i : Nat) : Prop := ∀ b off n c A, a = some ⟨b, off, none⟩ → w.cell? ⟨b, off + i * 4 + 3, none⟩ = some (.slice A n c) → n ≤ 10000

def AHeavy (a : Option Addr) (len : Nat) (w : World) (e : Ending) (w' : World) : Prop := ∃ b : Bool, e = .returned (.bool b) ∧ w = w' ∧ (b = false → ∀ i, i < len → i < 40 → Few w a i)

theorem within_val (i : Int) (n : Nat) (hn : 0 < n) (hn' : n ≤ 1000) : ∃ r : Nat, r < n ∧ wrap64 ((IntKind.u64.wrap i).tmod (n : Int)) = (r : Int) := by
  have h0 : 0 ≤ IntKind.u64.wrap i := by rw [IntKind.wrap_u64]; omega
  obtain ⟨m, hm⟩ := Int.eq_ofNat_of_zero_le h0
  rw [hm]
  refine ⟨m % n, Nat.mod_lt _ hn, ?_⟩
  have h1 : ((m : Int)).tmod (n : Int) = ((m % n : Nat) : Int) := by
    rw [Int.tmod_eq_emod_of_nonneg (by omega)]
    simp
  have h2 : m % n < n := Nat.mod_lt _ hn
  rw [h1, wrap64]
  omega
theorem within_is (i : Int) (n r : Nat) (w : World) (hv : wrap64 ((IntKind.u64.wrap i).tmod (n : Int)) = (r : Int)) (hn : 0 < n) (hn' : n ≤ 1000) : Calls Try.prog 32 #[.int .i64 i, .int .i64 n] w fun e w' => e = .returned (.int .i64 r) ∧ w = w' := by
  have HV := Lib.hid hv
  clear hv
  go_enter Try.func32, Try.ntmps32
  go_wp2
  rw [HV.out]
  go_ret
  exact ⟨rfl, rfl⟩
theorem within_any (i : Int) (n : Nat) (w : World) (hn : 0 < n) (hn' : n ≤ 1000) : Calls Try.prog 32 #[.int .i64 i, .int .i64 n] w fun e w' => (∃ r : Nat, r < n ∧ e = .returned (.int .i64 r)) ∧ w = w' := by
  obtain ⟨r, hr, hv⟩ := within_val i n hn hn'
  exact (within_is i n r w hv hn hn').mono fun e w' h => ⟨⟨r, hr, h.1⟩, h.2⟩

end Go.Proofs.Ytcfnomnhameleaa
