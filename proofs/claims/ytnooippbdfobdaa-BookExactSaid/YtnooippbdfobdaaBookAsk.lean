/-
  What a book is asked: the acts that came in, their cells and lists; what of them is let go; the acts' kinds; bytes written over.
-/
import Derived.Test.YtnooippbdfobdaaOpen
import Derived.Test.YtnooippbdfobdaaRefCalls
namespace Go.Proofs.Ytnooippbdfobdaa
open Go.RowKit Go.ChangeShapes Go.WideShapes Go.Deep

/-- an act -/
structure ActD where
  k : Int
  who : Int
  d : Int
  AB : Option Addr
  cB : Nat
  B : List Int

structure ActOk (w : World) (q : ActD) : Prop where
  wk : -9223372036854775808 ≤ q.k ∧ q.k ≤ 9223372036854775807
  ww : -9223372036854775808 ≤ q.who ∧ q.who ≤ 9223372036854775807
  wd : -9223372036854775808 ≤ q.d ∧ q.d ≤ 9223372036854775807
  hB : q.B.length ≤ q.cB
  mB : q.cB ≤ maxLen
  rB : Rd w q.AB (u8s q.B)
  sB : Byts q.B
  zB : q.B.length ≤ 140737488351232

def ActAt (w : World) (a : Option Addr) (i : Nat) : Prop :=
  ∃ (b off : Nat) (q : ActD), a = some ⟨b, off, none⟩ ∧ b < w.heap.size ∧ ActOk w q ∧
    w.cell? ⟨b, off + i * 4, none⟩ = some (.int .i64 q.k) ∧ w.cell? ⟨b, off + i * 4 + 1, none⟩ = some (.int .i64 q.who) ∧
    w.cell? ⟨b, off + i * 4 + 2, none⟩ = some (.int .i64 q.d) ∧ w.cell? ⟨b, off + i * 4 + 3, none⟩ = some (.slice q.AB q.B.length q.cB)

def Acts (w : World) (a : Option Addr) (len cap : Nat) : Prop := len ≤ cap ∧ cap ≤ maxLen ∧ ∀ i, i < len → ActAt w a i

theorem open_nums_sized {H : Type} {enc : TypeId × Value → H} {P : Program} {w : World} {base : Nat} {spare : Nat → Bool} {held : Bool} {t e : TypeId} {fuel : Nat} {v : Value} {x : DataW H × List MemPlace} {k : IntKind} (ht : P.underlying t = some (.slice e)) (he : P.underlying e = some (.int k)) (hc : P.cellsOf e = 1) (hby : P.bytesOf e = 1)
    (h : DataW.trod enc P w base spare held fuel t [v] = some x) (hw : ∀ n ∈ x.1.weights P t, n ≤ reachBytes) :
    ∃ (A : Option Addr) (c : Nat) (zs : List Int), v = .slice A zs.length c ∧ zs.length ≤ c ∧ c ≤ maxLen ∧ Rd w A (zs.map (Value.int k)) ∧ (∀ n ∈ zs, (Lit.int k n).wf = true) ∧ zs.length ≤ 140737488351232 := by
  have hsz : ∀ a len cap, v = .slice (some a) len cap → len ≤ 140737488351232 := fun a len cap hv => by
    rcases open_ints ht he hc h with ⟨h0, _⟩ | ⟨a', len', cap', zs, h0, _, hl, hm, hz, hx, _, _⟩
    · simp only [List.cons.injEq, and_true] at h0
      rw [h0] at hv; cases hv
    · simp only [List.cons.injEq, and_true] at h0
      rw [h0] at hv
      cases hv
      have hlen : len ≤ zs.length := by rw [hz]; split <;> omega
      have := hw ((len + (zs.length - len)) * 1) (by
        rw [hx, DataW.weights, ht]
        simp only [hby]
        refine List.mem_cons.2 (.inl ?_)
        simp [lits]
        omega)
      unfold reachBytes at this
      omega
  obtain ⟨A, c, zs, rfl, h1, h2, h3, h4⟩ := open_nums ht he hc h
  refine ⟨A, c, zs, rfl, h1, h2, h3, h4, ?_⟩
  cases A with
  | none =>
    rcases Nat.eq_zero_or_pos zs.length with h0 | h0
    · omega
    · obtain ⟨b, off, he, _⟩ := h3.open_ (by simpa using h0)
      cases he
  | some a => exact hsz a _ _ rfl
theorem bytes_u8 : Try.prog.bytesOf 5 = 1 := by kernel_rfl
theorem cells_act : Try.prog.cellsOf 33 = 4 := by kernel_rfl

theorem open_acts {H : Type} {enc : TypeId × Value → H} {w : World} {base : Nat} {spare : Nat → Bool} {held : Bool} {fuel : Nat} {a : Option Addr} {len cap : Nat} {z : DataW H × List MemPlace}
    (h : DataW.trod enc Try.prog w base spare held fuel 22 [.slice a len cap] = some z) (hw : ∀ n ∈ z.1.weights Try.prog 22, n ≤ reachBytes) : Acts w a len cap := by
  rcases open_slice Try.underlying22 h with ⟨hcs, _⟩ | ⟨ad, len', cap', m, n, D, Pl, hcs, _, hl, hm, hmm, hz, hi⟩
  · simp at hcs
    obtain ⟨rfl, rfl, rfl⟩ := hcs
    exact ⟨by omega, by unfold maxLen; omega, fun i hi => absurd hi (by omega)⟩
  · simp at hcs
    obtain ⟨rfl, rfl, rfl⟩ := hcs
    refine ⟨hl, hm, fun i hil => ?_⟩
    have him : i < m := by rw [hmm]; split <;> omega
    have hspot : ad.spot = none := by
      obtain ⟨cs, hc, _⟩ := hi 0 (by omega)
      rw [cells_act] at hc
      obtain ⟨_, hcl, hat⟩ := World.cells?_some hc
      have h0 := hat 0 (by omega)
      rw [List.getElem?_eq_getElem (by omega)] at h0
      have := World.cell?_spot h0
      simpa [Addr.add] using this
    obtain ⟨cs, hc, ht⟩ := hi i him
    rw [cells_act] at hc
    obtain ⟨_, hcl, hat⟩ := World.cells?_some hc
    obtain ⟨ys, n', _, hag, hlen, hyl, hf⟩ := DataW.trod_struct Try.underlying33 ht
    match cs, hcl with
    | [c0, c1, c2, c3], _ =>
      match ys, hyl with
      | [y0, y1, y2, y3], _ =>
        have f0 := hf 0 _ rfl
        have f1 := hf 1 _ rfl
        have f2 := hf 2 _ rfl
        have f3 := hf 3 _ rfl
        simp [cells_int, cells_u8s] at f0 f1 f2 f3
        obtain ⟨r0, e0, _, wr0⟩ := DataW.trod_int Try.underlying3 f0
        obtain ⟨r1, e1, _, wr1⟩ := DataW.trod_int Try.underlying3 f1
        obtain ⟨r2, e2, _, wr2⟩ := DataW.trod_int Try.underlying3 f2
        have hD : D i = .agg [y0.1, y1.1, y2.1, y3.1] := by
          have := congrArg Prod.fst hag
          simpa using this
        have hwi : ∀ n ∈ (D i).weights Try.prog 33, n ≤ reachBytes := fun n hn => hw n (by
          rw [hz]
          exact weights_slice Try.underlying22 (List.mem_map.2 ⟨i, List.mem_range.2 hil, rfl⟩) hn)
        have hw3 : ∀ n ∈ y3.1.weights Try.prog 31, n ≤ reachBytes := fun n hn => hwi n (by
          rw [hD, DataW.weights, Try.underlying33]
          exact DataW.weights_mem_each (j := 3) (t := 31) (d := y3.1) rfl rfl n hn)
        obtain ⟨AB, cB, B, e3, hB, mB, rB, sB, zB⟩ := open_nums_sized Try.underlying31 Try.underlying5 cells_u8 bytes_u8 f3 hw3
        simp at e0 e1 e2
        subst e0 e1 e2 e3
        have a0 := hat 0 (by omega)
        have a1 := hat 1 (by omega)
        have a2 := hat 2 (by omega)
        have a3 := hat 3 (by omega)
        rw [add_add] at a0 a1 a2 a3
        obtain ⟨b, off, spot⟩ := ad
        subst hspot
        simp only [Addr.add_lit] at a0 a1 a2 a3
        exact ⟨b, off, ⟨r0, r1, r2, AB, cB, B⟩, rfl, lt_of_cell a0, ⟨wf_i64 wr0, wf_i64 wr1, wf_i64 wr2, hB, mB, rB, fun n hn => wf_u8 (sB n hn), zB⟩, a0, a1, a2, a3⟩

theorem ActOk.below {w w' : World} {q : ActD} (h : ActOk w q) (hb : Below w.heap.size w w') : ActOk w' q := ⟨h.wk, h.ww, h.wd, h.hB, h.mB, h.rB.below hb, h.sB, h.zB⟩
/-- an act's cells and bytes, in every later world -/
theorem ActAt.all {w : World} {a : Option Addr} {i : Nat} (h : ActAt w a i) : ∃ (b off : Nat) (q : ActD) (nB : Nat), a = some ⟨b, off, none⟩ ∧ q.B.length = nB ∧ nB ≤ q.cB ∧ q.cB ≤ maxLen ∧ nB ≤ 140737488351232 ∧ b < w.heap.size ∧ ∀ wX, Below w.heap.size w wX → ActOk wX q ∧
    wX.cell? ⟨b, off + i * 4, none⟩ = some (.int .i64 q.k) ∧ wX.cell? ⟨b, off + i * 4 + 1, none⟩ = some (.int .i64 q.who) ∧
    wX.cell? ⟨b, off + i * 4 + 2, none⟩ = some (.int .i64 q.d) ∧ wX.cell? ⟨b, off + i * 4 + 3, none⟩ = some (.slice q.AB nB q.cB) := by
  obtain ⟨b, off, q, rfl, hlt, ok, c0, c1, c2, c3⟩ := h
  exact ⟨b, off, q, _, rfl, rfl, ok.hB, ok.mB, ok.zB, hlt, fun wX hb => ⟨ok.below hb, (hb.cell (p := ⟨b, _, none⟩) hlt).trans c0, (hb.cell (p := ⟨b, _, none⟩) hlt).trans c1, (hb.cell (p := ⟨b, _, none⟩) hlt).trans c2, (hb.cell (p := ⟨b, _, none⟩) hlt).trans c3⟩⟩

/-- the bytes of the act at an index are few, in whatever world its cells are the same -/
def Few (w : World) (a : Option Addr) (i : Nat) : Prop := ∀ b off n c A, a = some ⟨b, off, none⟩ → w.cell? ⟨b, off + i * 4 + 3, none⟩ = some (.slice A n c) → n ≤ 10000

def AHeavy (a : Option Addr) (len : Nat) (w : World) (e : Ending) (w' : World) : Prop := ∃ b : Bool, e = .returned (.bool b) ∧ w = w' ∧ (b = false → ∀ i, i < len → i < 40 → Few w a i)

set_option maxHeartbeats 400000 in
theorem aheavy_any (a : Option Addr) (len cap : Nat) (w : World) (ha : Acts w a len cap) :
    Calls Try.prog 6 #[.slice a len cap] w (AHeavy a len w) := by
  obtain ⟨hl, hm, hi⟩ := ha
  unfold maxLen at hm
  have HI := Lib.hid hi
  clear hi
  go_enter Try.func6, Try.ntmps6
  go_wp2
  go_loop [3, 4] (fun x i => ∃ k S : Nat, i = .int .i64 k ∧ x = .int .i64 S ∧ k ≤ len ∧ k ≤ 40 ∧ S ≤ 10000 ∧ Hid (∀ i, i < k → Few w a i)) (fun _ i => 40 - (intOf i).toNat)
  case atStart => exact ⟨0, 0, rfl, rfl, by omega, by omega, by omega, fun i hi => absurd hi (by omega)⟩
  case round =>
    obtain ⟨k, S, rfl, rfl, hk, hk40, hS, HF⟩ := hrel
    by_cases hlt : k < len
    · by_cases hlt40 : k < 40
      · obtain ⟨b, off, q, nB, rfl, hq, hnc, hcm, hzb, hbl, HA⟩ := (HI.out k hlt).all
        obtain ⟨ok, c0, c1, c2, c3⟩ := HA w (Below.refl _ _)
        unfold maxLen at hcm
        have i0 : (0 : Int) ≤ (k : Int) := by omega
        have i1 : (k : Int) < (len : Int) := by omega
        have i2 : (k : Int) < 40 := by omega
        have s1 : IntKind.i64.wrap ((S : Int) + (nB : Int)) = (S : Int) + (nB : Int) := IntWalk.i64_in _ (by omega)
        clear HA ok c0 c1 c2 hq
        by_cases hbig : 10000 < S + nB
        · have i3 : 10000 < (S : Int) + (nB : Int) := by omega
          go_wp2
          go_ret
          exact ⟨true, rfl, rfl, fun h => by cases h⟩
        · have i3 : ¬ (10000 < (S : Int) + (nB : Int)) := by omega
          have HN : Hid (∀ i, i < k + 1 → Few w (some ⟨b, off, none⟩) i) := fun i hi => by
            by_cases hik : i = k
            · subst hik
              intro b' off' n c A he hcell
              cases he
              rw [c3] at hcell
              cases hcell
              omega
            · exact HF.out i (by omega)
          go_wp2
          go_round
          case rel => exact ⟨k + 1, S + nB, by go_num, by go_num, by omega, by omega, by omega, HN.out⟩
          case measure => simp [intOf]; omega
      · have i1 : (k : Int) < (len : Int) := by omega
        have i2 : ¬ ((k : Int) < 40) := by omega
        go_wp2
        go_ret
        exact ⟨false, rfl, rfl, fun _ i _ hi40 => HF.out i (by omega)⟩
    · have i1 : ¬ ((k : Int) < (len : Int)) := by omega
      go_wp2
      go_ret
      exact ⟨false, rfl, rfl, fun _ i hil _ => HF.out i (by omega)⟩

theorem within_val (i : Int) (n : Nat) (hn : 0 < n) (hn' : n ≤ 1000) : ∃ r : Nat, r < n ∧ wrap64 ((IntKind.u64.wrap i).tmod (n : Int)) = (r : Int) := by
  have h0 : 0 ≤ IntKind.u64.wrap i := by rw [IntKind.wrap_u64]; omega
  obtain ⟨m, hm⟩ := Int.eq_ofNat_of_zero_le h0
  rw [hm]
  refine ⟨m % n, Nat.mod_lt _ hn, ?_⟩
  have h1 : ((m : Int)).tmod (n : Int) = ((m % n : Nat) : Int) := by
    rw [Int.tmod_eq_emod_of_nonneg (by omega)]
    simp
  have h2 : m % n < n := Nat.mod_lt _ hn
  rw [h1, wrap64]
  omega
theorem within_is (i : Int) (n r : Nat) (w : World) (hv : wrap64 ((IntKind.u64.wrap i).tmod (n : Int)) = (r : Int)) (hn : 0 < n) (hn' : n ≤ 1000) : Calls Try.prog 9 #[.int .i64 i, .int .i64 n] w fun e w' => e = .returned (.int .i64 r) ∧ w = w' := by
  have HV := Lib.hid hv
  clear hv
  go_enter Try.func9, Try.ntmps9
  go_wp2
  rw [HV.out]
  go_ret
  exact ⟨rfl, rfl⟩
theorem within_any (i : Int) (n : Nat) (w : World) (hn : 0 < n) (hn' : n ≤ 1000) : Calls Try.prog 9 #[.int .i64 i, .int .i64 n] w fun e w' => (∃ r : Nat, r < n ∧ e = .returned (.int .i64 r)) ∧ w = w' := by
  obtain ⟨r, hr, hv⟩ := within_val i n hn hn'
  exact (within_is i n r w hv hn hn').mono fun e w' h => ⟨⟨r, hr, h.1⟩, h.2⟩

/-- bytes written over: only their own row turns -/
theorem spoil_far (B : Nat) (v : Value) (n : Nat) (zs : List Int) (w : World) (hown : w.ownsRow B 5 1 v n (u8s zs)) (hn : n ≤ 1073741824) :
    Calls Try.prog 15 #[v] w fun e w' => e = .returned (.tuple #[]) ∧ Touch (fun k => v.ownBlock = some k) w w' := by
  obtain ⟨A, c, rfl, hnl, hc, hm, _, _⟩ := own_slice hown
  rw [← hnl] at hown hc ⊢
  unfold maxLen at hm
  have HL : Hid (n = (u8s zs).length) := hnl
  clear hnl
  go_enter Try.func15, Try.ntmps15
  go_wp2
  go_loopw [2] (fun i wr => ∃ (k : Nat) (ys : List Int), i = .int .i64 k ∧ k ≤ n ∧ wr.ownsRow 0 5 1 (.slice A n c) n (u8s ys) ∧ Touch (fun k => (Value.slice A n c).ownBlock = some k) w wr) (fun i _ => n - (intOf i).toNat)
  case atStart => exact ⟨0, zs, rfl, by omega, own_low hown (fun _ _ => Nat.zero_le _), Touch.refl _ _⟩
  case round =>
    obtain ⟨k, ys, rfl, hk, ho, ht⟩ := hrel
    clear hown
    by_cases hlt : k < n
    · obtain ⟨g, cap, hv, hBg, hglt⟩ := ho.form (by omega)
      simp only [Value.slice.injEq, true_and] at hv
      obtain ⟨rfl, rfl⟩ := hv
      have hyl : ys.length = n := by have := ho.1; rw [u8s_length] at this; omega
      have hc1 : wr.cell? ⟨g, k, none⟩ = some (.int .u8 (ys[k]?.getD 0)) := by rw [ho.cellAt k (by omega), u8s_at (by omega)]
      have hf1 := ho.frozenAt k
      have HY := Lib.hid hyl
      have HT := Lib.hid ht
      clear hyl ht
      have i0 : (0 : Int) ≤ (k : Int) := by omega
      have i1 : (k : Int) < (n : Int) := by omega
      go_wp2
      go_roundw
      case rel =>
        obtain ⟨s1, s2⟩ := ho.stored k (.int .u8 (bits .xor .u8 (ys[k]?.getD 0) 85))
        refine ⟨k + 1, ys.set k (bits .xor .u8 (ys[k]?.getD 0) 85), by go_num, by omega, ?_, HT.out.set (.inl rfl) _⟩
        rw [show u8s (ys.set k (bits .xor .u8 (ys[k]?.getD 0) 85)) = (u8s ys).set k (.int .u8 (bits .xor .u8 (ys[k]?.getD 0) 85)) from by simp [u8s, List.map_set]]
        exact s1
      case measure => simp [intOf]; omega
    · have i1 : ¬ ((k : Int) < (n : Int)) := by omega
      obtain rfl : k = n := by omega
      have HT := Lib.hid ht
      clear ht
      go_wp2_with (at_builtin; refine wpList_app_lies _ rfl _ _ 31 rfl 0 5 (.int .u8 0) 1 Try.underlying31 info_u8 rfl (by decide) _ k _ rfl (ho.alloc _) wr.heap.size (.int .u8 5) rfl (cell_new _ _ _) rfl (by omega) (by omega) ?_)
      intro g' c' w1 hown1 hg1 _
      have hT := (HT.out.alloc (.cells #[.int .u8 5] 5)).trans (Touch.grown (F := fun k' => (Value.slice A k c).ownBlock = some k') hg1 (fun k' e => e)) (fun k' hf => .inl hf)
      go_wp2
      go_end0
      exact ⟨rfl, hT⟩

end Go.Proofs.Ytnooippbdfobdaa
