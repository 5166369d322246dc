/-
  What the page's own disk may be handed.
-/
import Derived.Test.YtejfilphnebckaaDNew
import Derived.Test.YtejfilphnebckaaDName
import Derived.BigQuiet
import Derived.Test.YtejfilphnebckaaDRefA
namespace Go.Proofs.Ytejfilphnebckaa
open Go.RowKit

theorem quiet_same9 {P : Program} {f : FuncId} {args : Array Value} {w : World} {n : Nat} {v : Value} (h : Calls P f args (w.drewN n) fun e w' => e = .returned v ∧ w.drewN n = w') :
    Calls P f args (w.drewN n) fun e w'' => e = .returned v ∧ ∃ n', w'' = w.drewN n' :=
  h.mono fun _ _ ⟨he, hw⟩ => ⟨he, n, hw.symm⟩

/-- all that may be handed in stands in order -/
theorem may_rise {fs : List (ByteArray × List Int)} (h : mayB fs = true) : ∀ k, k ≤ fs.length → RiseN ((fs.take k).map Prod.fst) := by
  have ha : ∀ i, i < fs.length → okAt fs i = true := by
    simp only [mayB, Bool.and_eq_true, List.all_eq_true] at h
    exact fun i hi => h.2 i (by simpa using hi)
  intro k
  induction k with
  | zero => intro _; exact rise_nil
  | succ k ih =>
    intro hk
    obtain ⟨f, hf⟩ : ∃ f, fs[k]? = some f := ⟨fs[k]'(by omega), by simp [show k < fs.length by omega]⟩
    rw [List.take_add_one, hf]
    show RiseN ((fs.take k ++ [f]).map Prod.fst)
    rw [List.map_append]
    refine rise_snoc (ih (by omega)) fun a hla h0 => ?_
    have hl : ((fs.take k).map Prod.fst).length = k := by rw [List.length_map, List.length_take]; omega
    rw [hl] at hla h0
    rw [List.getElem?_map, List.getElem?_take, if_pos (by omega)] at hla
    have hok := ha k (by omega)
    rw [okAt, hf] at hok
    cases hp : fs[k - 1]? with
    | none => rw [hp] at hla; cases hla
    | some f' =>
      rw [hp] at hla hok
      cases hla
      simp only [Bool.and_eq_true, Bool.or_eq_true, decide_eq_true_eq] at hok
      rcases hok.2.2 with h1 | h1
      · omega
      · exact h1

set_option maxRecDepth 100000 in
set_option maxHeartbeats 2000000 in
theorem rmay_is (A : Option Addr) (c n : Nat) (l : List FL) (w : World) (hz : l.length = n) (hr : Rd w A (cellsF l)) (hi : ∀ f ∈ l, FIn w f) (hd : ∀ f ∈ l, f.dat.length ≤ 1073741824) (hn : n ≤ 100000) :
    Calls Try.prog 12 #[.slice A n c] w fun e w' => e = .returned (.bool (mayB (l.map FL.pl))) ∧ Below w.heap.size w w' := by
  have HZ := Lib.hid hz
  have HR := Lib.hid hr
  have HI := Lib.hid hi
  have HDL := Lib.hid hd
  by_cases h16 : 16 < n
  · have hm : mayB (l.map FL.pl) = false := by rw [mayB, decide_eq_false (by rw [List.length_map]; omega), Bool.false_and]
    rw [hm]
    have j0 : (16 : Int) < (n : Int) := by omega
    clear hz hr hi hd hm
    go_enter Try.func12, Try.ntmps12
    go_wp2_with fail
    go_ret
    exact ⟨rfl, Below.refl _ _⟩
  have j0 : ¬ ((16 : Int) < (n : Int)) := by omega
  obtain ⟨fs, hfs⟩ : ∃ fs, l.map FL.pl = fs := ⟨_, rfl⟩
  have hlen : fs.length = n := by rw [← hfs, List.length_map, hz]
  have hat : ∀ (k : Nat) (f : FL), l[k]? = some f → fs[k]? = some (f.nm, f.dat) := fun k f hf => by rw [← hfs, List.getElem?_map, hf]; rfl
  rw [hfs]
  have HLEN := Lib.hid hlen
  have HAT := Lib.hid hat
  clear hz hr hi hd hfs hlen hat
  go_enter Try.func12, Try.ntmps12
  go_wp2_with fail
  go_loopw [3] (fun i wr => ∃ k : Nat, i = .int .i64 k ∧ k ≤ n ∧ Hid (∀ j, j < k → okAt fs j = true) ∧ Below w.heap.size w wr) (fun i _ => n - (intOf i).toNat)
  case atStart => exact ⟨0, rfl, by omega, fun j hj => absurd hj (by omega), Below.refl _ _⟩
  case round =>
    obtain ⟨k, rfl, hk, HOK, hb⟩ := hrel
    have i0 : (0 : Int) ≤ (k : Int) := by omega
    by_cases hlt : k < n
    · have i1 : (k : Int) < (n : Int) := by omega
      obtain ⟨f, hf⟩ : ∃ f, l[k]? = some f := ⟨l[k]'(by rw [HZ.out]; exact hlt), by simp⟩
      obtain ⟨b, off, rfl, _, hcl⟩ := (HR.out.below hb).open_ (by rw [cellsF_length, HZ.out]; omega)
      have hfi := HI.out f (List.mem_of_getElem? hf)
      have hdl := HDL.out f (List.mem_of_getElem? hf)
      obtain ⟨⟨Ad, cd, hv, _⟩, _⟩ := hfi
      obtain ⟨nd, hnd⟩ : ∃ nd, f.dat.length = nd := ⟨_, rfl⟩
      rw [hnd] at hv hdl
      obtain ⟨g0, g1⟩ := cellsF_at hf
      have e0 : wr.cell? ⟨b, off + k * 2, none⟩ = some (.string f.nm) := hcl _ _ g0
      have e1 : wr.cell? ⟨b, off + k * 2 + 1, none⟩ = some (.slice Ad nd cd) := by rw [Nat.add_assoc, hcl _ _ g1, hv]
      have hfk := HAT.out k f hf
      have HNEXT : Hid (okAt fs k = true → ∀ j, j < k + 1 → okAt fs j = true) := fun h j hj => by
        rcases Nat.lt_or_ge j k with h' | h'
        · exact HOK.out j h'
        · obtain rfl : j = k := by omega
          exact h
      have hca : okAt fs k = (okName f.nm && (decide (nd ≤ 1048576) && (decide (k = 0) || match fs[k - 1]? with
        | none => true
        | some f' => ltN f'.1 f.nm))) := by rw [okAt, hfk, ← hnd]; rfl
      cases hon : okName f.nm with
      | false =>
        have HNO : Hid (mayB fs = false) := mayB_no (by rw [HLEN.out]; exact hlt) (by rw [hca, hon, Bool.false_and])
        have HON := Lib.hid hon
        have hcall : ∀ N, Calls Try.prog 31 #[.string f.nm] (wr.drewN N) fun e w' => e = .returned (.bool false) ∧ wr.drewN N = w' := fun N => by rw [← HON.out]; exact refName_any _ _
        have HCALL := Lib.hid hcall
        clear hf hcl g0 g1 hv hnd hfk hca hon hcall
        go_wp2_with fail
        go_quiet ((go_at_call 31; exact quiet_same9 (HCALL.out _)))
        go_wp2_with fail
        go_ret
        exact ⟨ret_bool HNO.out.symm, below_n hb _⟩
      | true =>
        have HON := Lib.hid hon
        have hcall : ∀ N, Calls Try.prog 31 #[.string f.nm] (wr.drewN N) fun e w' => e = .returned (.bool true) ∧ wr.drewN N = w' := fun N => by rw [← HON.out]; exact refName_any _ _
        have HCALL := Lib.hid hcall
        clear hcall
        by_cases hbig : 1048576 < nd
        · have HNO : Hid (mayB fs = false) := mayB_no (by rw [HLEN.out]; exact hlt) (by rw [hca, decide_eq_false (by omega : ¬ nd ≤ 1048576), Bool.false_and, Bool.and_false])
          have d2 : decide ((1048576 : Int) < (nd : Int)) = true := by simp; omega
          clear hf hcl g0 g1 hv hnd hfk hca hon
          go_wp2_with fail
          go_quiet ((go_at_call 31; exact quiet_same9 (HCALL.out _)))
          go_wp2_with fail
          go_ret
          exact ⟨ret_bool HNO.out.symm, below_n hb _⟩
        · have d2 : decide ((1048576 : Int) < (nd : Int)) = false := by simp; omega
          rw [hon, decide_eq_true (by omega : nd ≤ 1048576), Bool.true_and, Bool.true_and] at hca
          by_cases hk0 : k = 0
          · have HYES : Hid (okAt fs k = true) := by show _ = _; rw [hca, decide_eq_true hk0, Bool.true_or]
            subst hk0
            rw [Nat.zero_mul, Nat.add_zero] at e0 e1
            clear hf hcl g0 g1 hv hnd hfk hca hon
            go_wp2_with fail
            go_quiet ((go_at_call 31; exact quiet_same9 (HCALL.out _)))
            go_wp2_with fail
            go_roundw
            case rel => exact ⟨1, by go_num, by omega, HNEXT.out HYES.out, below_n hb _⟩
            case measure => simp [intOf]; omega
          · have d3 : decide ((0 : Int) < (k : Int)) = true := by simp; omega
            have d3n : decide (0 < k) = true := by simp; omega
            obtain ⟨f', hf'⟩ : ∃ f', l[k - 1]? = some f' := ⟨l[k - 1]'(by rw [HZ.out]; omega), by simp [show k - 1 < l.length by rw [HZ.out]; omega]⟩
            obtain ⟨g0', _⟩ := cellsF_at hf'
            have e0' : wr.cell? ⟨b, off + (k - 1) * 2, none⟩ = some (.string f'.nm) := hcl _ _ g0'
            have e9 : ((k : Int) - 1) = ((k - 1 : Nat) : Int) := by omega
            have i9 : (0 : Int) ≤ ((k - 1 : Nat) : Int) := by omega
            have i8 : ((k - 1 : Nat) : Int) < (n : Int) := by omega
            rw [decide_eq_false hk0, Bool.false_or, HAT.out _ _ hf'] at hca
            have hca2 : okAt fs k = ltN f'.nm f.nm := hca
            cases hlt2 : ltN f'.nm f.nm with
            | true =>
              have HYES : Hid (okAt fs k = true) := hca2.trans hlt2
              have d4 : Op.bytesLess f'.nm.toList f.nm.toList = true := hlt2
              clear hf hcl g0 g1 hv hnd hfk hca hon hca2 hlt2 hf' g0'
              go_wp2_with fail
              go_quiet ((go_at_call 31; exact quiet_same9 (HCALL.out _)))
              go_wp2_with fail
              go_roundw
              case rel => exact ⟨k + 1, by go_num, by omega, HNEXT.out HYES.out, below_n hb _⟩
              case measure => simp [intOf]; omega
            | false =>
              have HNO : Hid (mayB fs = false) := mayB_no (by rw [HLEN.out]; exact hlt) (hca2.trans hlt2)
              have d4 : Op.bytesLess f'.nm.toList f.nm.toList = false := hlt2
              clear hf hcl g0 g1 hv hnd hfk hca hon hca2 hlt2 hf' g0'
              go_wp2_with fail
              go_quiet ((go_at_call 31; exact quiet_same9 (HCALL.out _)))
              go_wp2_with fail
              go_ret
              exact ⟨ret_bool HNO.out.symm, below_n hb _⟩
    · have i1 : ¬ ((k : Int) < (n : Int)) := by omega
      have HYES : Hid (mayB fs = true) := mayB_yes (by rw [HLEN.out]; omega) fun i hi => HOK.out i (by rw [HLEN.out] at hi; omega)
      go_wp2_with fail
      go_ret
      exact ⟨ret_bool HYES.out.symm, hb⟩

end Go.Proofs.Ytejfilphnebckaa
/-
  The page's own disk, new.
-/
namespace Go.Proofs.Ytejfilphnebckaa
open Go.RowKit

section
variable {w w2 w3 w4 : World} {g : Nat} {F : Nat → Prop} {D : PD} {vL : Value} {l : Int} {ms : List MR} {nm : ByteArray} {zs : List Int} {A2 A4 : Option Addr} {nd c2 c4 : Nat}
/-- one file more at the row's end -/
theorem RefIn.grow (h : RefIn w g F D vL l ms) (hb2 : Below w.heap.size w w2) (ho2 : w2.ownsRow w.heap.size 5 1 (.slice A2 nd c2) nd (u8s zs)) (hz : zs.length = nd) (hby : Byts zs) (hnd : nd ≤ 1048576) (hok : okName nm = true) (hb3 : Below w2.heap.size w2 w3)
    (hown : w4.ownsRow 0 74 3 (.slice A4 (ms.length + 1) c4) (ms.length + 1) (cellsR ms ++ [.string nm, .slice A2 nd c2, .slice A2 nd c2])) (hg : w3.grownBy w4 vL.ownBlock)
    (hloc : (Value.slice A4 (ms.length + 1) c4).ownBlock = vL.ownBlock ∨ (Value.slice A4 (ms.length + 1) c4).ownBlock = some w3.heap.size) (hrise : RiseN ((ms ++ [(⟨nm, zs, zs, .slice A2 nd c2, .slice A2 nd c2⟩ : MR)]).map MR.nm)) (hl : ms.length < 16) :
    RefIn (w4.setCell ⟨g, 0, none⟩ (.slice A4 (ms.length + 1) c4)) g (fun k => F k ∨ (w.heap.size ≤ k ∧ k < w4.heap.size)) { D with L := (ms ++ [(⟨nm, zs, zs, .slice A2 nd c2, .slice A2 nd c2⟩ : MR)]).map MR.pf } (.slice A4 (ms.length + 1) c4) l (ms ++ [⟨nm, zs, zs, .slice A2 nd c2, .slice A2 nd c2⟩]) := by
  have hgl : g < w.heap.size := h.lt _ h.here
  have z2 := hb2.size
  have z3 := hb3.size
  have z4 : w3.heap.size ≤ w4.heap.size := hg.size
  have hsz : (w4.setCell ⟨g, 0, none⟩ (.slice A4 (ms.length + 1) c4)).heap.size = w4.heap.size := by simp
  have hoth : ∀ k, k ≠ g → (w4.setCell ⟨g, 0, none⟩ (.slice A4 (ms.length + 1) c4)).heap[k]? = w4.heap[k]? := fun k hk => heap_setCell_other w4 ⟨g, 0, none⟩ k _ hk
  have hk4 : ∀ k, k < w2.heap.size → vL.ownBlock ≠ some k → w4.heap[k]? = w2.heap[k]? := fun k hk hn => (hg.block k (by omega) (fun e => hn e.symm)).trans (hb3.block k hk)
  have hkw : ∀ k, k < w.heap.size → vL.ownBlock ≠ some k → w4.heap[k]? = w.heap[k]? := fun k hk hn => (hk4 k (by omega) hn).trans (hb2.block k hk)
  have hv4 : ∀ k, (Value.slice A4 (ms.length + 1) c4).ownBlock = some k → vL.ownBlock = some k ∨ k = w3.heap.size := fun k hk => by
    rcases hloc with e | e
    · exact .inl (by rw [← e]; exact hk)
    · rw [e] at hk; cases hk; exact .inr rfl
  have hrow4 : ∀ k, vL.ownBlock = some k → k < w.heap.size := fun k hk => h.lt k (h.rowF k hk)
  have hold : ∀ {v : Value} {ys : List Int}, ByIn w F g vL v ys → ByIn (w4.setCell ⟨g, 0, none⟩ (.slice A4 (ms.length + 1) c4)) (fun k => F k ∨ (w.heap.size ≤ k ∧ k < w4.heap.size)) g (.slice A4 (ms.length + 1) c4) v ys := fun {v ys} hx => by
    obtain ⟨⟨A, c, h1, h2, h3, h4, h5⟩, h6, h7⟩ := hx.far (w' := w4.setCell ⟨g, 0, none⟩ (.slice A4 (ms.length + 1) c4)) (by rw [hsz]; omega) fun k hk hkg hkv => (hoth k hkg).trans (hkw k hk hkv)
    obtain ⟨⟨A', c', h1', _, _, _, h5'⟩, _, _⟩ := hx
    rw [h1] at h1'
    cases h1'
    refine ⟨⟨A, c, h1, h2, h3, h4, fun a ha h0 => ?_⟩, h6, h7⟩
    obtain ⟨q1, q2, q3, q4⟩ := h5' a ha h0
    exact ⟨by rw [hsz]; omega, .inl q2, q3, fun e => by
      rcases hv4 _ e with e' | e'
      · exact q4 e'
      · omega⟩
  have hnew : ByIn (w4.setCell ⟨g, 0, none⟩ (.slice A4 (ms.length + 1) c4)) (fun k => F k ∨ (w.heap.size ≤ k ∧ k < w4.heap.size)) g (.slice A4 (ms.length + 1) c4) (.slice A2 nd c2) zs := by
    obtain ⟨A, c', e, h1, h2, h3, _, _⟩ := own_val ho2
    cases e
    have hA : ∀ a, A2 = some a → a.block < w2.heap.size ∧ w.heap.size ≤ a.block := fun a ha => own_lt ho2 (g := a.block) (by rw [ha]; rfl)
    have hng : ∀ a, A2 = some a → vL.ownBlock ≠ some a.block := fun a ha e => by have := hrow4 _ e; have := (hA a ha).2; omega
    refine ⟨⟨A2, c2, by rw [hz], by omega, h2, h3.kept (by rw [hsz]; omega) fun a ha hl => (hoth _ (by have := (hA a ha).2; omega)).trans (hk4 _ hl (hng a ha)), fun a ha _ => ?_⟩, hby, by omega⟩
    have := hA a ha
    exact ⟨by rw [hsz]; omega, .inr ⟨this.2, by omega⟩, by omega, fun e => by
      rcases hv4 _ e with e' | e'
      · exact hng a ha e'
      · omega⟩
  have hlen : (ms ++ [(⟨nm, zs, zs, .slice A2 nd c2, .slice A2 nd c2⟩ : MR)]).length = ms.length + 1 := by simp
  refine ⟨?_, ?_, fun m hm => ?_, fun e => ?_, .inl h.here, fun k hk => ?_, fun k hk => ?_, rfl, ?_, by rw [hlen]; omega, h.okl, h.lr⟩
  · have hblk : w4.heap[g]? = some (.cells #[vL, .int .i64 D.calls, .int .i64 l, .bool D.off] 72 (0, 0)) := (hkw g hgl h.ng).trans h.blk
    exact heap_setCell_same w4 g 0 _ _ _ hblk
  · rw [hlen, cellsR_append]
    refine own_kept ?_ fun k hk _ => hoth k fun e => ?_
    · exact hown
    · rw [e] at hk
      rcases hv4 _ hk with e' | e'
      · exact h.ng e'
      · omega
  · rcases List.mem_append.1 hm with hm | hm
    · obtain ⟨e1, e2, e3⟩ := h.els m hm
      exact ⟨hold e1, hold e2, e3⟩
    · rw [List.mem_singleton] at hm
      subst hm
      exact ⟨hnew, hnew, hok⟩
  · rcases hv4 _ e with e' | e'
    · exact h.ng e'
    · omega
  · have hlt := (own_lt hown hk).1
    rcases hv4 _ hk with e' | e'
    · exact .inl (h.rowF _ e')
    · exact .inr ⟨by omega, hlt⟩
  · rw [hsz]
    rcases hk with hk | hk
    · have := h.lt k hk; omega
    · exact hk.2
  · show RiseN (((ms ++ [(⟨nm, zs, zs, .slice A2 nd c2, .slice A2 nd c2⟩ : MR)]).map MR.pf).map PF.nm)
    rw [List.map_map]
    exact hrise
end

set_option maxRecDepth 100000 in
set_option maxHeartbeats 4000000 in
theorem rnew_is (A : Option Addr) (c n : Nat) (l : List FL) (w : World) (hz : l.length = n) (hr : Rd w A (cellsF l)) (hi : ∀ f ∈ l, FIn w f) (hm : mayB (l.map FL.pl) = true) :
    Calls Try.prog 15 #[.slice A n c] w fun e w' => ∃ (g : Nat) (F : Nat → Prop), e = .returned (.pointer (some ⟨g, 0, none⟩)) ∧ IsRef w' g F (dNew (l.map FL.pl)) ∧ (∀ k, F k → w.heap.size ≤ k) ∧ Below w.heap.size w w' := by
  have HZ := Lib.hid hz
  have HR := Lib.hid hr
  have HI := Lib.hid hi
  have hn16 : n ≤ 16 := by
    simp only [mayB, Bool.and_eq_true, decide_eq_true_eq, List.length_map] at hm
    omega
  have hok : ∀ (k : Nat) (f : FL), l[k]? = some f → okName f.nm = true ∧ f.dat.length ≤ 1048576 := fun k f hf => by
    simp only [mayB, Bool.and_eq_true, List.all_eq_true] at hm
    have hk := (List.getElem?_eq_some_iff.1 hf).1
    have h1 := hm.2 k (by simpa using hk)
    have hfk : (l.map FL.pl)[k]? = some (f.nm, f.dat) := by rw [List.getElem?_map, hf]; rfl
    rw [okAt, hfk] at h1
    simp only [Bool.and_eq_true, decide_eq_true_eq] at h1
    exact ⟨h1.1, h1.2.1⟩
  have hris : ∀ k, k ≤ n → RiseN (((l.map FL.pl).take k).map Prod.fst) := fun k hk => may_rise hm k (by rw [List.length_map]; omega)
  have HOKS := Lib.hid hok
  have HRIS := Lib.hid hris
  clear hz hr hi hm hok hris
  obtain ⟨w1, hw1⟩ : ∃ w1, w1 = w.alloc (.cells #[.slice none 0 0, .int .i64 0, .int .i64 (-1), .bool false] 72) := ⟨_, rfl⟩
  have hb1 : Below w.heap.size w w1 := by rw [hw1]; exact (Below.refl _ _).alloc (Nat.le_refl _) _
  have hz1 : w1.heap.size = w.heap.size + 1 := by rw [hw1]; simp
  have hd1 : RefIn w1 w.heap.size (fun k => k = w.heap.size) (dNew []) (.slice none 0 0) (-1) [] := by
    refine ⟨?_, World.ownsRow_nil _ _ _ _, fun m hm => by simp at hm, by simp [Value.ownBlock], rfl, fun k hk => by simp [Value.ownBlock] at hk, fun k hk => by rw [hk, hz1]; omega, rfl, rise_nil, by simp, fun _ => rfl, ⟨by omega, by omega⟩⟩
    rw [hw1]
    exact heap_alloc_new w _
  have HW := Lib.hid hw1
  have HD1 := Lib.hid hd1
  have HB1 := Lib.hid hb1
  clear hw1 hd1 hb1
  go_enter Try.func15, Try.ntmps15
  go_upto_region 2 with fail
  rw [← HW.out]
  go_wp2_with fail
  go_loopw [4, 5] (fun i b wr => ∃ (k : Nat) (F : Nat → Prop) (vL : Value) (ms : List MR), i = .int .i64 k ∧ k ≤ n ∧ Hid (RefIn wr w.heap.size F (dNew ((l.map FL.pl).take k)) vL (-1) ms) ∧ Hid (ms.length = k) ∧ Hid (∀ x, F x → w.heap.size ≤ x) ∧ Below w.heap.size w wr) (fun i _ _ => n - (intOf i).toNat)
  case atStart => exact ⟨0, _, _, _, rfl, by omega, HD1.out, rfl, fun x hx => by rw [hx]; exact Nat.le_refl _, HB1.out⟩
  case round =>
    obtain ⟨k, F, vL, ms, rfl, hk, HD, HML, HF, hb⟩ := hrel
    have i0 : (0 : Int) ≤ (k : Int) := by omega
    by_cases hlt : k < n
    · have i1 : (k : Int) < (n : Int) := by omega
      obtain ⟨f, hf⟩ : ∃ f, l[k]? = some f := ⟨l[k]'(by rw [HZ.out]; exact hlt), by simp⟩
      obtain ⟨b, off, rfl, hbl, hcl⟩ := (HR.out.below hb).open_ (by rw [cellsF_length, HZ.out]; omega)
      have hfi := HI.out f (List.mem_of_getElem? hf)
      obtain ⟨hon, hsz⟩ := HOKS.out k f hf
      obtain ⟨⟨Ad, cd, hv, hndc, hcm, hrd⟩, hby⟩ := hfi
      obtain ⟨nd, hnd⟩ : ∃ nd, f.dat.length = nd := ⟨_, rfl⟩
      rw [hnd] at hv hsz hndc
      obtain ⟨g0, g1⟩ := cellsF_at hf
      have e0 : wr.cell? ⟨b, off + k * 2, none⟩ = some (.string f.nm) := hcl _ _ g0
      have e1 : wr.cell? ⟨b, off + k * 2 + 1, none⟩ = some (.slice Ad nd cd) := by rw [Nat.add_assoc, hcl _ _ g1, hv]
      obtain ⟨AL, cL, hvL, hkc, hcLm, _⟩ := HD.out.slice HML.out
      have c0 := HD.out.c0
      have f0 := HD.out.fz 0
      rw [hvL] at c0
      have hgl : w.heap.size < wr.heap.size := HD.out.lt _ HD.out.here
      have HRD := Lib.hid (hrd.below hb)
      have HND := Lib.hid hnd
      have HBY := Lib.hid hby
      have HON := Lib.hid hon
      have HFK : Hid ((l.map FL.pl)[k]? = some (f.nm, f.dat)) := by show _ = _; rw [List.getElem?_map, hf]; rfl
      have HVL := Lib.hid hvL
      clear hf hcl g0 g1 hv hrd hnd hby hon hvL
      go_wp2_with fail
      refine (copyBytes_any Ad cd nd f.dat _ HND.out HRD.out hndc (by omega)).mono ?_
      rintro e w2 ⟨v2, rfl, ho2, hb2⟩
      have ho2b := own_cast ho2 ((u8s_length _).trans HND.out)
      obtain ⟨A2, c2, rfl, hc2, hm2, hr2, _, _⟩ := own_val ho2b
      have HO2 := Lib.hid ho2b
      have k0 : w2.cell? ⟨w.heap.size, 0, none⟩ = some (.slice AL k cL) := (hb2.cell (p := ⟨w.heap.size, 0, none⟩) hgl).trans c0
      have k1 : w2.cell? ⟨b, off + k * 2, none⟩ = some (.string f.nm) := (hb2.cell (p := ⟨b, off + k * 2, none⟩) hbl).trans e0
      have q0 := (hb2.frozen (p := ⟨w.heap.size, 0, none⟩) hgl).trans f0
      have hz2 := hb2.size
      have ka : ∀ o, (w2.alloc o).cell? ⟨w.heap.size, 0, none⟩ = some (.slice AL k cL) := fun o => (((Below.refl w2.heap.size w2).alloc (Nat.le_refl _) o).cell (p := ⟨w.heap.size, 0, none⟩) (Nat.lt_of_lt_of_le hgl hz2)).trans k0
      have kb : ∀ o, (w2.alloc o).cell? ⟨b, off + k * 2, none⟩ = some (.string f.nm) := fun o => (((Below.refl w2.heap.size w2).alloc (Nat.le_refl _) o).cell (p := ⟨b, off + k * 2, none⟩) (Nat.lt_of_lt_of_le hbl hz2)).trans k1
      clear ho2 ho2b hr2 c0 f0 e0 e1
      go_wp2_with fail
      go_region_law (first
        | (obtain ⟨w3, hw3⟩ : ∃ w3, w3 = (w2.alloc (.cells #[.string f.nm, .slice A2 nd c2, .slice A2 nd c2] 74)).drew := ⟨_, rfl⟩; have hb3 : Below w2.heap.size w2 w3 := (by rw [hw3]; exact ((Below.refl _ _).alloc (Nat.le_refl _) _).drew); have hgx : w3.heap[w2.heap.size]? = some (.cells ([.string f.nm, .slice A2 nd c2, .slice A2 nd c2] : List Value).toArray 74 (0, 0)) := (by rw [hw3]; exact heap_alloc_new w2 _); have hrow3 := ownS_below (ownS_below HD.out.row hb2) hb3; rw [HVL.out, HML.out] at hrow3; obtain ⟨A7, c7, w7, hrun, hown7, hg7, hloc7⟩ := run_app_elem (P := Try.prog) w3 70 70 0 74 _ 3 64 Try.underlying70 info_rfile rfl (by decide) (by decide) _ k _ hrow3 w2.heap.size [.string f.nm, .slice A2 nd c2, .slice A2 nd c2] rfl hgx (fun u hu => by simp only [List.mem_cons, List.not_mem_nil, or_false] at hu; rcases hu with rfl | rfl | rfl <;> rfl) (by omega) (Nat.zero_le _); refine step_app_run _ (by rfl) _ _ 70 70 (by rfl) (by rfl) (by rfl) (by first | (rw [← show _ = _ from hw3]; exact hrun) | (have h9 := hrun; rw [hw3] at h9; exact h9)) ?_; have hgne : (Value.slice AL k cL).ownBlock ≠ some w.heap.size := (by have := HD.out.ng; rwa [HVL.out] at this); have q7 : w7.cell? ⟨w.heap.size, 0, none⟩ = some (.slice AL k cL) := (World.cell?_of_block (a := ⟨w.heap.size, 0, none⟩) (hg7.block w.heap.size (Nat.lt_of_lt_of_le hgl (Nat.le_trans hz2 hb3.size)) (fun e => hgne e.symm))).trans ((hb3.cell (p := ⟨w.heap.size, 0, none⟩) (Nat.lt_of_lt_of_le hgl hz2)).trans k0); have z7 : w7.frozen? ⟨w.heap.size, 0, none⟩ = false := (World.frozen?_of_block (a := ⟨w.heap.size, 0, none⟩) (hg7.block w.heap.size (Nat.lt_of_lt_of_le hgl (Nat.le_trans hz2 hb3.size)) (fun e => hgne e.symm))).trans ((hb3.frozen (p := ⟨w.heap.size, 0, none⟩) (Nat.lt_of_lt_of_le hgl hz2)).trans q0)))
      all_goals
        have hris := HRIS.out (k + 1) (by omega)
        rw [List.take_add_one, HFK.out] at hris
        have hfin := HD.out.grow (nm := f.nm) hb2 HO2.out HND.out HBY.out (by omega) HON.out hb3 (A4 := A7) (c4 := c7) (w4 := w7) (by rw [HML.out]; exact hown7) (by rw [HVL.out]; exact hg7) (by rw [HML.out, HVL.out]; exact hloc7) (by
          have e : (ms ++ [(⟨f.nm, f.dat, f.dat, .slice A2 nd c2, .slice A2 nd c2⟩ : MR)]).map MR.nm = (((l.map FL.pl).take k ++ [(f.nm, f.dat)] : List (ByteArray × List Int))).map Prod.fst := by
            rw [List.map_append, List.map_append]
            have h1 := HD.out.nmL
            have h2 : namesF (dNew ((l.map FL.pl).take k)).L = ((l.map FL.pl).take k).map Prod.fst := by simp [namesF, dNew, mkPF, List.map_map, Function.comp_def]
            rw [← h1, h2]
            rfl
          rw [e]
          exact hris) (by rw [HML.out]; omega)
        rw [HML.out] at hfin
        have heq : ({ dNew ((l.map FL.pl).take k) with L := (ms ++ [(⟨f.nm, f.dat, f.dat, .slice A2 nd c2, .slice A2 nd c2⟩ : MR)]).map MR.pf } : PD) = dNew ((l.map FL.pl).take (k + 1)) := by
          have h1 := HD.out.eqL
          have h2 : (ms ++ [(⟨f.nm, f.dat, f.dat, .slice A2 nd c2, .slice A2 nd c2⟩ : MR)]).map MR.pf = (dNew ((l.map FL.pl).take (k + 1))).L := by
            rw [List.map_append, ← h1, List.take_add_one, HFK.out]
            simp [dNew, mkPF, MR.pf]
          rw [h2]
          rfl
        rw [heq] at hfin
        have hbw7 : Below w.heap.size w (w7.setCell ⟨w.heap.size, 0, none⟩ (.slice A7 (k + 1) c7)) := by
          have h1 : Below w.heap.size w w3 := hb.trans ((hb2.trans (hb3.mono hz2)).mono hb.size)
          have h2 : Below w.heap.size w w7 := by
            have hrow := own_low (w := w3) hrow3 (B' := w.heap.size) (fun k' hk' => HF.out k' (HD.out.rowF k' (by rw [HVL.out]; exact hk')))
            exact belowS_own h1 hrow hg7 h1.size
          exact h2.setCell (Nat.le_refl _) _
        have HFIN := Lib.hid hfin
        have hML9 : Hid ((ms ++ [(⟨f.nm, f.dat, f.dat, .slice A2 nd c2, .slice A2 nd c2⟩ : MR)]).length = k + 1) := by show _ = _; rw [List.length_append, HML.out]; rfl
        have hF9 : Hid (∀ x, (F x ∨ (wr.heap.size ≤ x ∧ x < w7.heap.size)) → w.heap.size ≤ x) := fun x hx => by
          rcases hx with hx | hx
          · exact HF.out x hx
          · have := hb.size; omega
        clear hfin heq hris hown7 hg7 hloc7 hrun hrow3 hgx hb3 hw3 q7 z7
        go_wp2_with fail
        go_roundw
        case rel => exact ⟨k + 1, _, _, _, by go_num, by omega, HFIN.out, hML9, hF9, hbw7⟩
        case measure => simp [intOf]; omega
    · have i1 : ¬ ((k : Int) < (n : Int)) := by omega
      have hkn : k = n := by omega
      have hfin := HD.out
      rw [List.take_of_length_le (by rw [List.length_map, HZ.out]; omega)] at hfin
      have HFIN := Lib.hid hfin
      clear hfin
      go_wp2_with fail
      go_ret
      exact ⟨w.heap.size, rfl, F, ⟨_, _, _, HFIN.out⟩, HF.out, hb⟩

end Go.Proofs.Ytejfilphnebckaa
