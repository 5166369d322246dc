/-
  Package disk: New.
-/
import Derived.Test.YtaccmjgnggepjaaKZH
namespace Go.Proofs.Ytaccmjgnggepjaa
open Go.RowKit

def okAt (fs : List (ByteArray × List Int)) (i : Nat) : Bool :=
  match fs[i]? with
  | none => true
  | some f => okName f.1 && (decide (f.2.length ≤ 1048576) && (decide (i = 0) || match fs[i - 1]? with
    | none => true
    | some f' => ltN f'.1 f.1))
def mayB (fs : List (ByteArray × List Int)) : Bool := decide (fs.length ≤ 16) && (List.range fs.length).all (okAt fs)
def mkPF (f : ByteArray × List Int) : PF := ⟨f.1, f.2, f.2⟩
def dNew (fs : List (ByteArray × List Int)) : PD := ⟨fs.map mkPF, 0, 0, false⟩
theorem mayB_no {fs : List (ByteArray × List Int)} {i : Nat} (hi : i < fs.length) (h : okAt fs i = false) : mayB fs = false := by
  simp only [mayB, Bool.and_eq_false_imp, decide_eq_true_eq]
  intro _
  rw [List.all_eq_false]
  exact ⟨i, by simpa using hi, by rw [h]; decide⟩
theorem mayB_yes {fs : List (ByteArray × List Int)} (hl : fs.length ≤ 16) (h : ∀ i, i < fs.length → okAt fs i = true) : mayB fs = true := by
  simp only [mayB, Bool.and_eq_true, decide_eq_true_eq, List.all_eq_true]
  exact ⟨hl, fun i hi => h i (by simpa using hi)⟩
/-- rising so far, one by one -/
theorem rise_snoc {l : List ByteArray} {s : ByteArray} (h : RiseN l) (hl : ∀ a, l[l.length - 1]? = some a → 0 < l.length → ltN a s = true) : RiseN (l ++ [s]) := by
  rw [RiseN, List.pairwise_append]
  refine ⟨h, List.pairwise_singleton _ _, fun a ha b hb => ?_⟩
  rw [List.mem_singleton] at hb
  subst hb
  obtain ⟨i, hi⟩ := List.mem_iff_getElem?.1 ha
  have hil := (List.getElem?_eq_some_iff.1 hi).1
  have hlast : l[l.length - 1]? = some (l[l.length - 1]'(by omega)) := List.getElem?_eq_getElem (by omega)
  have h1 := hl _ hlast (by omega)
  rcases Nat.lt_or_ge i (l.length - 1) with h2 | h2
  · exact ltN_trans (rise_at h h2 hi hlast) h1
  · have : i = l.length - 1 := by omega
    subst this
    rw [hi] at hlast
    cases hlast
    exact h1

theorem box2 {w : World} {gb : Nat} {a b : Value} {t : TypeId} (h : w.heap[gb]? = some (.cells #[a, b] t (0, 0))) : w.cell? ⟨gb, 0, none⟩ = some a ∧ w.cell? ⟨gb, 1, none⟩ = some b :=
  ⟨cell_of_row w gb 0 _ _ _ h, cell_of_row w gb 1 _ _ _ h⟩

theorem DiskIn.wider {w : World} {g : Nat} {F F' : Nat → Prop} {D : PD} {vL : Value} {l : Int} {ms : List MF} (h : DiskIn w g F D vL l ms) (hF : ∀ k, F k → F' k) (hlt : ∀ k, F' k → k < w.heap.size) : DiskIn w g F' D vL l ms :=
  ⟨h.blk, h.row, h.els, h.nd, fun k hk => hF k (h.inF k hk), hlt, h.eqL, h.rise, h.few, h.okl, h.lr⟩

/-- what New keeps from round to round -/
def NewD (w : World) (g : Nat) (fs : List (ByteArray × List Int)) (k : Nat) (wr : World) : Prop := ∃ F : Nat → Prop, (∃ vL ms, DiskIn wr g F (dNew (fs.take k)) vL 0 ms) ∧ ∀ k, F k → w.heap.size ≤ k

set_option maxHeartbeats 1000000 in
/-- one file more at the row's end -/
theorem new_file {w w2 w3 w4 w5 w6 : World} {g k nF c4 c5 cL : Nat} {F : Nat → Prop} {AL A4 A5 : Option Addr} {ms : List MF} {f : FL} {fs : List (ByteArray × List Int)}
    (hdd : DiskIn w2 g F (dNew (fs.take k)) (.slice AL k cL) 0 ms ∧ (∀ k, F k → w.heap.size ≤ k) ∧ Below w.heap.size w w2 ∧ ms.length = k) (hff : fs[k]? = some f.pl ∧ RiseN (namesF (dNew (fs.take (k + 1))).L))
    (hb3 : Below w2.heap.size w2 w3) (hb4 : Below w3.heap.size w3 w4) (hb5 : Below w4.heap.size w4 w5) (hb6 : Below w5.heap.size w5 w6) (ho4 : w4.ownsRow w3.heap.size 5 1 (.slice A4 nF c4) nF (u8s f.dat)) (ho5 : w5.ownsRow w4.heap.size 5 1 (.slice A5 nF c5) nF (u8s f.dat)) (hnF : f.dat.length = nF)
    (hok : okName f.nm = true) (hby : Byts f.dat) (hz : nF ≤ 1048576) (hgx : w6.heap[w5.heap.size]? = some (.cells ([.string f.nm, .slice A4 nF c4, .slice A5 nF c5, .int .i64 nF] : List Value).toArray 82 (0, 0))) (hk : k < 16) :
    ∃ A7 c7 w7, (Builtin.append_ #[74, 74] 74 #[.slice AL k cL, .slice (some ⟨w5.heap.size, 0, none⟩) 1 1]).run Try.prog w6 = .ok (.slice A7 (k + 1) c7) w7 ∧ w7.cell? ⟨g, 0, none⟩ = some (.slice AL k cL) ∧ w7.frozen? ⟨g, 0, none⟩ = false ∧
      (∀ b, b < w6.heap.size → (Value.slice AL k cL).ownBlock ≠ some b → w7.heap[b]? = w6.heap[b]?) ∧ NewD w g fs (k + 1) (w7.setCell ⟨g, 0, none⟩ (.slice A7 (k + 1) c7)) ∧ Below w.heap.size w (w7.setCell ⟨g, 0, none⟩ (.slice A7 (k + 1) c7)) := by
  obtain ⟨hd2, hFw, hbw, hmk⟩ := hdd
  obtain ⟨hfk, hrise⟩ := hff
  have z3 := hb3.size
  have z4 := hb4.size
  have z5 := hb5.size
  have z6 := hb6.size
  have zw := hbw.size
  have hb26 : Below w2.heap.size w2 w6 := hb3.trans ((hb4.trans ((hb5.trans (hb6.mono z5)).mono z4)).mono z3)
  obtain ⟨F6, hF6⟩ : ∃ F6 : Nat → Prop, F6 = fun k => F k ∨ (w2.heap.size ≤ k ∧ k < w6.heap.size) := ⟨_, rfl⟩
  have hd6 : DiskIn w6 g F6 (dNew (fs.take k)) (.slice AL k cL) 0 ms := (hd2.below hb26).wider (fun k hk => by rw [hF6]; exact .inl hk) (fun k hk => by
    rw [hF6] at hk
    rcases hk with hk | hk
    · have := hd2.lt k hk; omega
    · exact hk.2)
  have ho4' : w6.ownsRow w3.heap.size 5 1 (.slice A4 nF c4) nF (u8s f.dat) := own_below ho4 (hb5.trans (hb6.mono z5))
  have ho5' : w6.ownsRow w4.heap.size 5 1 (.slice A5 nF c5) nF (u8s f.dat) := own_below ho5 hb6
  have hfi : FileIn w6 ⟨f.nm, f.dat, f.dat, .slice A4 nF c4, .slice A5 nF c5, nF⟩ :=
    { rV := own_cast (own_more ho4' (Nat.zero_le _)) hnF.symm
      rD := own_cast (own_more ho5' (Nat.zero_le _)) hnF.symm
      s1 := by show nF ≤ f.dat.length; omega
      s2 := by show nF ≤ f.dat.length; omega
      s3 := rfl
      b1 := hby
      b2 := hby
      z1 := by show f.dat.length ≤ _; omega
      z2 := by show f.dat.length ≤ _; omega
      ok := hok }
  have h4 : ∀ b, (Value.slice A4 nF c4).ownBlock = some b → w3.heap.size ≤ b ∧ b < w4.heap.size := fun b hb => ⟨(own_lt ho4 hb).2, (own_lt ho4 hb).1⟩
  have h5 : ∀ b, (Value.slice A5 nF c5).ownBlock = some b → w4.heap.size ≤ b ∧ b < w5.heap.size := fun b hb => ⟨(own_lt ho5 hb).2, (own_lt ho5 hb).1⟩
  have hbk : ∀ b ∈ (⟨f.nm, f.dat, f.dat, .slice A4 nF c4, .slice A5 nF c5, nF⟩ : MF).blks, w2.heap.size ≤ b ∧ b < w6.heap.size := by
    intro b hb
    simp only [MF.blks, List.mem_append, Option.mem_toList] at hb
    rcases hb with hb | hb
    · have := h4 b hb; omega
    · have := h5 b hb; omega
  have hrow := hd6.row
  rw [hmk] at hrow
  have hgl : g < w6.heap.size := hd6.lt _ hd6.here
  have hgl2 : g < w2.heap.size := hd2.lt _ hd2.here
  obtain ⟨A7, c7, w7, hrun, hown7, hg7, hloc7⟩ := run_app_elem (P := Try.prog) w6 74 74 0 82 zfile 4 72 Try.underlying74 info_file rfl (by decide) (by decide) (.slice AL k cL) k (cellsD ms) hrow w5.heap.size [.string f.nm, .slice A4 nF c4, .slice A5 nF c5, .int .i64 nF] rfl hgx (by simp; exact ⟨rfl, rfl, rfl, rfl⟩) (by omega) (Nat.zero_le _)
  have hbg : w7.heap[g]? = w6.heap[g]? := hg7.block g hgl (fun e => hd6.rowNe e.symm)
  have hL' : (dNew (fs.take (k + 1))).L = (ms ++ ([⟨f.nm, f.dat, f.dat, .slice A4 nF c4, .slice A5 nF c5, nF⟩] : List MF)).map MF.pf := by
    rw [List.map_append, ← hd6.eqL, dNew, take_up hfk]
    simp [dNew, mkPF, MF.pf, FL.pl]
  have hlen : (ms ++ [(⟨f.nm, f.dat, f.dat, .slice A4 nF c4, .slice A5 nF c5, nF⟩ : MF)]).length = k + 1 := by rw [List.length_append, hmk]; rfl
  have hto := hd6.rowTo (w2 := w7) (v2 := .slice A7 (k + 1) c7) (T' := dNew (fs.take (k + 1))) (ms2 := ms ++ ([⟨f.nm, f.dat, f.dat, .slice A4 nF c4, .slice A5 nF c5, nF⟩] : List MF)) hg7 (by
      rw [hlen, cellsD_append]
      simpa [cellsD, MF.cells] using hown7) hloc7 (fun x hx => by
      rcases List.mem_append.1 hx with hx | hx
      · exact hd6.els x hx
      · rw [List.mem_singleton] at hx; rw [hx]; exact hfi) (fun x hx b hb => by
      rcases List.mem_append.1 hx with hx | hx
      · exact ⟨hd6.elF hx hb, hd6.apart hx hb⟩
      · rw [List.mem_singleton] at hx
        subst hx
        have h1 := hbk b hb
        refine ⟨by rw [hF6]; exact .inr h1, by omega, fun e => ?_⟩
        have := hd2.lt b (hd2.rowF e)
        omega) (by
      simp only [List.flatMap_append, List.flatMap_cons, List.flatMap_nil, List.append_nil, List.nodup_append, List.mem_flatMap]
      refine ⟨hd6.ndF, ?_, ?_⟩
      · simp only [MF.blks, List.nodup_append, Option.mem_toList]
        refine ⟨by cases (Value.slice A4 nF c4).ownBlock <;> simp, by cases (Value.slice A5 nF c5).ownBlock <;> simp, ?_⟩
        rintro a ha b hb rfl
        have := h4 a ha
        have := h5 a hb
        omega
      · rintro a ⟨x, hx, ha⟩ b hb rfl
        have h1 := hbk a hb
        have := hd2.lt a (hd2.elF hx ha)
        omega) hL' hrise (by rw [hlen]; omega) rfl rfl rfl
  refine ⟨A7, c7, w7, hrun, (World.cell?_of_block (a := ⟨g, 0, none⟩) hbg).trans hd6.c0, (World.frozen?_of_block (a := ⟨g, 0, none⟩) hbg).trans (hd6.fz 0), fun b hb hne => hg7.block b hb (fun e => hne e.symm), ?_, ?_⟩
  · obtain ⟨F7, ⟨v7, l7, ms7, hd7⟩, ht7, hs7⟩ := hto
    refine ⟨F7, ⟨v7, ms7, ?_⟩, fun b hb => ?_⟩
    · have : l7 = 0 := by have := hd7.okl rfl; simpa [dNew] using this
      rw [← this]
      exact hd7
    · rcases hs7 b hb with h | h
      · rw [hF6] at h
        rcases h with h | h
        · exact hFw b h
        · omega
      · omega
  · have hb7 : Below w.heap.size w w7 := by
      refine (hbw.trans (hb26.mono zw)).trans ⟨hg7.os, hg7.tape, hg7.output, hg7.size, fun b hb => hg7.block b (by omega) (fun e => ?_)⟩
      have := hFw b (hd2.rowF e.symm)
      omega
    exact hb7.setCell (hFw g hd2.here) _

/-- what holds at the label -/
inductive NewJ (p : Prop) (w0 : World) : Act → World → Prop
  | mk (u0 u1 u2 u3 u4 u5 u6 u7 u8 u9 u10 u11 u12 u13 u14 u15 u16 u17 u18 u19 u20 u21 u22 u23 u24 u25 u26 u27 u28 u29 u30 u31 u32 u33 u34 u35 u36 u37 u38 u39 u40 u41 u42 u43 u44 u45 u46 u47 u48 u49 u50 u51 u52 u53 u54 u55 u56 u57 u58 u59 u60 u61 u62 u63 u64 u65 : Value) (w' : World) (h : p) (hb : Below w0.heap.size w0 w') : NewJ p w0 { tmps := #[u0, u1, u2, u3, u4, u5, u6, u7, u8, u9, u10, u11, u12, u13, u14, u15, u16, u17, u18, u19, u20, u21, u22, u23, u24, u25, u26, u27, u28, u29, u30, u31, u32, u33, u34, u35, u36, u37, u38, u39, u40, u41, u42, u43, u44, u45, u46, u47, u48, u49, u50, u51, u52, u53, u54, u55, u56, u57, u58, u59, u60, u61, u62, u63, u64, u65], defers := [] } w'
theorem NewJ_elim {p : Prop} {w0 : World} {G : Act → World → Prop} (h : ∀ (u0 u1 u2 u3 u4 u5 u6 u7 u8 u9 u10 u11 u12 u13 u14 u15 u16 u17 u18 u19 u20 u21 u22 u23 u24 u25 u26 u27 u28 u29 u30 u31 u32 u33 u34 u35 u36 u37 u38 u39 u40 u41 u42 u43 u44 u45 u46 u47 u48 u49 u50 u51 u52 u53 u54 u55 u56 u57 u58 u59 u60 u61 u62 u63 u64 u65 : Value) (w' : World), p → Below w0.heap.size w0 w' → G { tmps := #[u0, u1, u2, u3, u4, u5, u6, u7, u8, u9, u10, u11, u12, u13, u14, u15, u16, u17, u18, u19, u20, u21, u22, u23, u24, u25, u26, u27, u28, u29, u30, u31, u32, u33, u34, u35, u36, u37, u38, u39, u40, u41, u42, u43, u44, u45, u46, u47, u48, u49, u50, u51, u52, u53, u54, u55, u56, u57, u58, u59, u60, u61, u62, u63, u64, u65], defers := [] } w') : ∀ a' w', NewJ p w0 a' w' → G a' w' := fun a' w' k => by
  cases k with
  | mk u0 u1 u2 u3 u4 u5 u6 u7 u8 u9 u10 u11 u12 u13 u14 u15 u16 u17 u18 u19 u20 u21 u22 u23 u24 u25 u26 u27 u28 u29 u30 u31 u32 u33 u34 u35 u36 u37 u38 u39 u40 u41 u42 u43 u44 u45 u46 u47 u48 u49 u50 u51 u52 u53 u54 u55 u56 u57 u58 u59 u60 u61 u62 u63 u64 u65 _ hp hb => exact h _ _ _ _ _ _ _ _ _ _ _ _ _ _ _ _ _ _ _ _ _ _ _ _ _ _ _ _ _ _ _ _ _ _ _ _ _ _ _ _ _ _ _ _ _ _ _ _ _ _ _ _ _ _ _ _ _ _ _ _ _ _ _ _ _ _ _ hp hb

/-- what New hands back -/
def NewTo (w : World) (fs : List (ByteArray × List Int)) (e : Ending) (w' : World) : Prop :=
  Below w.heap.size w w' ∧ if mayB fs = true then ∃ g F, e = .returned (.tuple #[.pointer (some ⟨g, 0, none⟩), .int .i64 0]) ∧ IsDisk w' g F (dNew fs) ∧ ∀ k, F k → w.heap.size ≤ k else e = .returned (.tuple #[.pointer none, .int .i64 1])
theorem newTo_no {w w' : World} {fs : List (ByteArray × List Int)} (h : mayB fs = false) (hb : Below w.heap.size w w') : NewTo w fs (.returned (.tuple #[.pointer none, .int .i64 1])) w' := ⟨hb, by rw [if_neg (by rw [h]; decide)]⟩
theorem newTo_yes {w w' : World} {fs : List (ByteArray × List Int)} {g : Nat} (h : mayB fs = true) (hd : NewD w g fs fs.length w') (hb : Below w.heap.size w w') : NewTo w fs (.returned (.tuple #[.pointer (some ⟨g, 0, none⟩), .int .i64 0])) w' := by
  obtain ⟨F, ⟨vL, ms, hd⟩, hF⟩ := hd
  refine ⟨hb, ?_⟩
  rw [if_pos h]
  rw [List.take_length] at hd
  exact ⟨g, F, rfl, ⟨vL, 0, ms, hd⟩, hF⟩

set_option maxRecDepth 100000 in
set_option maxHeartbeats 16000000 in
theorem new_is (A : Option Addr) (n c : Nat) (fl : List FL) (fs : List (ByteArray × List Int)) (w : World) (hn : fl.length = n) (hfs : fl.map FL.pl = fs) (hrd : Rd w A (cellsF fl)) (hfi : ∀ f ∈ fl, FIn w f) (hnm : ∀ f ∈ fl, f.nm.size ≤ maxLen) (hcap : n ≤ c) (hfew : n ≤ 1000000) :
    Calls Try.prog 23 #[.slice A n c] w (NewTo w fs) := by
  have HN := Lib.hid hn
  have HFS := Lib.hid hfs
  have HRD := Lib.hid hrd
  have HFI := Lib.hid hfi
  have HNM := Lib.hid hnm
  have hfl : fs.length = n := by rw [← hfs, List.length_map]; exact hn
  have HFL := Lib.hid hfl
  obtain ⟨g, hg⟩ : ∃ g, g = w.heap.size := ⟨_, rfl⟩
  obtain ⟨w1, hw1⟩ : ∃ w1, w1 = w.alloc (.cells #[.slice none 0 0, .int .i64 0, .int .i64 0, .bool false] 76) := ⟨_, rfl⟩
  have hb1 : Below w.heap.size w w1 := by rw [hw1]; exact (Below.refl _ _).alloc (Nat.le_refl _) _
  have hd1 : NewD w g fs 0 w1 := by
    refine ⟨fun k => k = g, ⟨.slice none 0 0, [], ?_⟩, fun k hk => by rw [hk, hg]; exact Nat.le_refl _⟩
    exact
      { blk := by rw [hw1, hg]; exact heap_alloc_new w _
        row := World.ownsRow_nil _ _ _ _
        els := fun m hm => by simp at hm
        nd := by simp [dblks, Value.ownBlock]
        inF := fun k hk => by simpa [dblks, Value.ownBlock] using hk
        lt := fun k hk => by rw [hk, hg, hw1]; simp
        eqL := by simp [dNew]
        rise := by simp [dNew, namesF]; exact rise_nil
        few := Nat.zero_le _
        okl := fun _ => rfl
        lr := by omega }
  have HD1 := Lib.hid hd1
  have HB1 := Lib.hid hb1
  have HW1 := Lib.hid hw1
  have HG := Lib.hid hg
  clear hn hfs hrd hfi hnm hfl hd1 hb1 hw1 hg
  go_enter Try.func23, Try.ntmps23
  go_wp2_with fail
  refine wp_scope_jumps 0 (NewJ (mayB fs = false) w) (fun _ _ => 0) rfl ?_ ?_
  · go_upto_region 2 with fail
    rw [← HW1.out, ← HG.out]
    by_cases hbig : 16 < n
    · have HNO : Hid (mayB fs = false) := by
        show _ = _
        simp only [mayB, Bool.and_eq_false_imp, decide_eq_true_eq]
        intro h
        have := HFL.out
        omega
      have j1 : (16 : Int) < (n : Int) := by omega
      clear hbig
      go_wp2_with fail
      go_step3
      show 0 = 0 ∧ NewJ (mayB fs = false) w _ _
      exact ⟨rfl, .mk _ _ _ _ _ _ _ _ _ _ _ _ _ _ _ _ _ _ _ _ _ _ _ _ _ _ _ _ _ _ _ _ _ _ _ _ _ _ _ _ _ _ _ _ _ _ _ _ _ _ _ _ _ _ _ _ _ _ _ _ _ _ _ _ _ _ _ HNO.out HB1.out⟩
    · have j1 : ¬ ((16 : Int) < (n : Int)) := by omega
      go_wp2_with fail
      go_loopw [5, 6, 14] (fun _ _ i wr => ∃ k : Nat, i = .int .i64 k ∧ k ≤ n ∧ Hid (∀ j, j < k → okAt fs j = true) ∧ Hid (NewD w g fs k wr) ∧ Hid (Below w.heap.size w wr)) (fun _ _ i _ => n - (intOf i).toNat)
      case atStart => exact ⟨0, rfl, by omega, fun j hj => by omega, HD1.out, HB1.out⟩
      case round =>
        obtain ⟨k, rfl, hk, HOK, HND, HBW⟩ := hrel
        by_cases hlt : k < n
        · obtain ⟨f, hf⟩ : ∃ f, fl[k]? = some f := ⟨_, List.getElem?_eq_getElem (by rw [HN.out]; omega)⟩
          have hmem : f ∈ fl := List.mem_of_getElem? hf
          have hfk : fs[k]? = some f.pl := by rw [← HFS.out, List.getElem?_map, hf]; rfl
          obtain ⟨b, off, rfl, hbl, hcell⟩ := (HRD.out.below HBW.out).open_ (by rw [cellsF_length, HN.out]; omega)
          have a0 := hcell _ _ (cellsF_at hf).1
          have a1 := hcell _ _ (cellsF_at hf).2
          simp only [← Nat.add_assoc] at a0 a1
          obtain ⟨⟨AF, cF, hv, hcF, hmF, hrF⟩, hbyt⟩ := (HFI.out f hmem).below HBW.out
          obtain ⟨nF, hnF⟩ : ∃ nF, f.dat.length = nF := ⟨_, rfl⟩
          rw [hnF] at hv hcF
          rw [hv] at a1
          have hnmz := HNM.out f hmem
          obtain ⟨gb, hgb⟩ : ∃ gb, gb = wr.heap.size := ⟨_, rfl⟩
          obtain ⟨w2, hw2⟩ : ∃ w2, w2 = wr.alloc (.cells #[.string f.nm, .slice AF nF cF] 78) := ⟨_, rfl⟩
          have hb2 : Below wr.heap.size wr w2 := by rw [hw2]; exact (Below.refl _ _).alloc (Nat.le_refl _) _
          have hbk2 : w2.heap[gb]? = some (.cells #[.string f.nm, .slice AF nF cF] 78 (0, 0)) := by rw [hw2, hgb]; exact heap_alloc_new wr _
          have hgb2 : gb < w2.heap.size := (Array.getElem?_eq_some_iff.1 hbk2).1
          have hbw2 : Below w.heap.size w w2 := HBW.out.trans (hb2.mono HBW.out.size)
          have HBK2 := Lib.hid hbk2
          have HBW2 := Lib.hid hbw2
          have HB2 := Lib.hid hb2
          have HGB := Lib.hid hgb
          have HRF := Lib.hid (hrF.below hb2)
          have HNF := Lib.hid hnF
          have HFK := Lib.hid hfk
          have HBF := Lib.hid hbyt
          have i0 : (0 : Int) ≤ (k : Int) := by omega
          have i1 : (k : Int) < (n : Int) := by omega
          -- the names ahead, read again
          have hprev : 0 < k → ∃ f', fs[k - 1]? = some f' ∧ w2.cell? ⟨b, off + (k - 1) * 2, none⟩ = some (.string f'.1) := by
            intro h0
            obtain ⟨f1, hf1⟩ : ∃ f1, fl[k - 1]? = some f1 := ⟨_, List.getElem?_eq_getElem (by rw [HN.out]; omega)⟩
            refine ⟨f1.pl, by rw [← HFS.out, List.getElem?_map, hf1]; rfl, ?_⟩
            exact (hb2.cell (p := ⟨b, off + (k - 1) * 2, none⟩) hbl).trans (hcell _ _ (cellsF_at hf1).1)
          have HPREV := Lib.hid hprev
          go_upto_region 6 with fail
          rw [← hw2, ← hgb]
          clear hcell hf hmem hv hnF hfk hw2 hb2 hbw2 hbk2 hgb hrF a0 a1 hbyt hprev
          obtain ⟨b0, b1⟩ := box2 HBK2.out
          go_wp2_with fail
          cases hok : okName f.nm with
          | false =>
            have HNO : Hid (mayB fs = false) := mayB_no (i := k) (by rw [HFL.out]; exact hlt) (by rw [okAt, HFK.out]; show (okName f.nm && _) = false; rw [hok, Bool.false_and])
            refine (isName_is false _ _ hnmz hok).mono ?_
            rintro e w' ⟨rfl, rfl⟩
            clear hok
            go_wp2_with fail
            go_step3
            show 0 = 0 ∧ NewJ (mayB fs = false) w _ _
            exact ⟨rfl, .mk _ _ _ _ _ _ _ _ _ _ _ _ _ _ _ _ _ _ _ _ _ _ _ _ _ _ _ _ _ _ _ _ _ _ _ _ _ _ _ _ _ _ _ _ _ _ _ _ _ _ _ _ _ _ _ _ _ _ _ _ _ _ _ _ _ _ _ HNO.out HBW2.out⟩
          | true =>
            have HOKN := Lib.hid hok
            refine (isName_is true _ _ hnmz hok).mono ?_
            rintro e w' ⟨rfl, rfl⟩
            clear hok
            by_cases hlong : 1048576 < nF
            · have HNO : Hid (mayB fs = false) := mayB_no (i := k) (by rw [HFL.out]; exact hlt) (by
                rw [okAt, HFK.out]
                show (okName f.nm && (decide (f.dat.length ≤ 1048576) && _)) = false
                rw [HNF.out, decide_eq_false (by omega), Bool.false_and, Bool.and_false])
              have j2 : (1048576 : Int) < (nF : Int) := by omega
              clear hlong
              go_wp2_with fail
              go_step3
              show 0 = 0 ∧ NewJ (mayB fs = false) w _ _
              exact ⟨rfl, .mk _ _ _ _ _ _ _ _ _ _ _ _ _ _ _ _ _ _ _ _ _ _ _ _ _ _ _ _ _ _ _ _ _ _ _ _ _ _ _ _ _ _ _ _ _ _ _ _ _ _ _ _ _ _ _ _ _ _ _ _ _ _ _ _ _ _ _ HNO.out HBW2.out⟩
            · have j2 : ¬ ((1048576 : Int) < (nF : Int)) := by omega
              by_cases hk0 : k = 0
              · have j3 : ¬ ((0 : Int) < (k : Int)) := by omega
                have j9 : decide (0 < k) = false := by simp; omega
                have HK0 := Lib.hid hk0
                clear hk0
                go_wp2_with fail
                go_quiet (fail)
                obtain ⟨wd, hwd⟩ : ∃ wd, wd = (w2.drewN nq).drew := ⟨_, rfl⟩
                have hbd : Below w2.heap.size w2 wd := by rw [hwd]; exact (below_n (Below.refl _ _) nq).drew
                have hbk2 := (hbd.block gb hgb2).trans HBK2.out
                obtain ⟨F, ⟨vL, ms, hdr⟩, hFw⟩ := HND.out
                have hmk : ms.length = k := by
                  have h1 := hdr.lenL
                  rw [dNew, List.length_map, List.length_take] at h1
                  have := HFL.out
                  omega
                obtain ⟨AL, cL, hvL, hnc, hcm, _⟩ := hdr.slice hmk
                subst hvL
                have hdd := (hdr.below HB2.out).below hbd
                have hgl : g < wd.heap.size := hdd.lt _ hdd.here
                have hgbd : gb < wd.heap.size := Nat.lt_of_lt_of_le hgb2 hbd.size
                have k2 := hdd.c0
                have HGBN : Hid ((Value.slice AL k cL).ownBlock ≠ some gb) := fun e => by have h1 := hdr.lt _ (hdr.rowF e); have h2 := HGB.out; omega
                have hgbg : gb ≠ g := fun e => by have h1 := hdr.lt _ hdr.here; have h2 := HGB.out; omega
                have HDD : Hid (DiskIn wd g F (dNew (fs.take k)) (.slice AL k cL) 0 ms ∧ (∀ k, F k → w.heap.size ≤ k) ∧ Below w.heap.size w wd ∧ ms.length = k) := ⟨hdd, hFw, HBW2.out.trans (hbd.mono HBW2.out.size), hmk⟩
                have hnames : namesF (dNew (fs.take (k + 1))).L = namesF (dNew (fs.take k)).L ++ [f.nm] := by rw [dNew, dNew, take_up HFK.out]; simp [namesF, mkPF, FL.pl]
                have hnl : (namesF (dNew (fs.take k)).L).length = k := by
                  have := HFL.out
                  simp only [namesF, dNew, List.length_map, List.length_take]
                  omega
                have HFF : Hid (fs[k]? = some f.pl ∧ RiseN (namesF (dNew (fs.take (k + 1))).L)) := by
                  refine ⟨HFK.out, ?_⟩
                  rw [hnames]
                  refine rise_snoc hdr.rise fun a ha h0 => ?_
                  rw [hnl] at ha h0
                  exact absurd h0 (by have := HK0.out; omega)
                have HOKS : Hid (∀ j, j < k + 1 → okAt fs j = true) := fun j hj => by
                  rcases Nat.lt_or_ge j k with h1 | h1
                  · exact HOK.out j h1
                  · obtain rfl : j = k := by omega
                    rw [okAt, HFK.out]
                    show (okName f.nm && (decide (f.dat.length ≤ 1048576) && _)) = true
                    rw [HOKN.out, HNF.out, decide_eq_true (by omega), Bool.true_and, Bool.true_and]
                    rw [HK0.out]; rfl
                have HRF := Lib.hid (HRF.out.below hbd)
                have hok32 := okName_size HOKN.out
                have HWD := Lib.hid hwd
                have hk16 : k < 16 := by omega
                clear hdr hFw hdd hbd hwd hnames hnl hmk b0 b1
                go_wp2_with fail
                refine wp_region_held_drew (S := fun w' => w'.cell? ⟨gb, 0, none⟩ = some (.string f.nm) ∧ w'.cell? ⟨gb, 1, none⟩ = some (.slice AF nF cF)) (by kernel_rfl) (by rw [← HWD.out]; exact box2 hbk2) (fun _ => ?_)
                rw [← HWD.out]
                refine ytake_0 (v := ?vv1) (by kernel_rfl) (by kernel_rfl) (by kernel_rfl) (fun _ _ _ h => h) (Or.inl ⟨by rfl, ?hy1⟩) (box2 hbk2) ?_
                case hy1 =>
                  intro wX hSw
                  go_simp
                  try with_reducible rfl
                try simp only [Act.put, List.setIfInBounds_toArray, List.set_cons_zero, List.set_cons_succ]
                refine ytake_1 (v := ?vv2) (by kernel_rfl) (by kernel_rfl) (by kernel_rfl) (fun _ _ _ h => h) (Or.inl ⟨by rfl, ?hy2⟩) (box2 hbk2) ?_
                case hy2 =>
                  intro wX hSw
                  go_simp
                  try with_reducible rfl
                try simp only [Act.put, List.setIfInBounds_toArray, List.set_cons_zero, List.set_cons_succ]
                refine ytake_2 (v := ?vv3) (by kernel_rfl) (by kernel_rfl) (by kernel_rfl) (fun _ _ _ h => h) (Or.inl ⟨by rfl, ?hy3⟩) (box2 hbk2) ?_
                case hy3 =>
                  intro wX hSw
                  go_simp
                  try with_reducible rfl
                try simp only [Act.put, List.setIfInBounds_toArray, List.set_cons_zero, List.set_cons_succ]
                refine ytake_3 (v := ?vv4) (by kernel_rfl) (by kernel_rfl) (by kernel_rfl) (fun _ _ _ h => h) (Or.inl ⟨by rfl, ?hy4⟩) (box2 hbk2) ?_
                case hy4 =>
                  intro wX hSw
                  go_simp
                  try with_reducible rfl
                try simp only [Act.put, List.setIfInBounds_toArray, List.set_cons_zero, List.set_cons_succ]
                refine ytake_5 (v := ?vv5) (by kernel_rfl) (by kernel_rfl) (by kernel_rfl) (fun _ _ _ h => h) (Or.inl ⟨by rfl, ?hy5⟩) (box2 hbk2) ?_
                case hy5 =>
                  intro wX hSw
                  go_simp
                  try with_reducible rfl
                try simp only [Act.put, List.setIfInBounds_toArray, List.set_cons_zero, List.set_cons_succ]
                refine ytake_6 (v := ?vv6) (by kernel_rfl) (by kernel_rfl) (by kernel_rfl) (fun _ _ _ h => h) (Or.inl ⟨by rfl, ?hy6⟩) (box2 hbk2) ?_
                case hy6 =>
                  intro wX hSw
                  have hcc := hSw.1
                  go_simp
                  try with_reducible rfl
                try simp only [Act.put, List.setIfInBounds_toArray, List.set_cons_zero, List.set_cons_succ]
                refine ytake_8 (v := ?vv7) (by kernel_rfl) (by kernel_rfl) (by kernel_rfl) (fun _ _ _ h => h) (Or.inl ⟨by rfl, ?hy7⟩) (box2 hbk2) ?_
                case hy7 =>
                  intro wX hSw
                  go_simp
                  try with_reducible rfl
                try simp only [Act.put, List.setIfInBounds_toArray, List.set_cons_zero, List.set_cons_succ]
                refine ytake_9 (v := ?vv8) (by kernel_rfl) (by kernel_rfl) (by kernel_rfl) (fun _ _ _ h => h) (Or.inl ⟨by rfl, ?hy8⟩) (box2 hbk2) ?_
                case hy8 =>
                  intro wX hSw
                  have hcc := hSw.2
                  go_simp
                  try with_reducible rfl
                try simp only [Act.put, List.setIfInBounds_toArray, List.set_cons_zero, List.set_cons_succ]
                refine ytake_11 (v := ?vv9) (by kernel_rfl) (by kernel_rfl) (by kernel_rfl) (fun _ _ _ h => h) (Or.inl ⟨by rfl, ?hy9⟩) (box2 hbk2) ?_
                case hy9 =>
                  intro wX hSw
                  go_simp
                  try with_reducible rfl
                try simp only [Act.put, List.setIfInBounds_toArray, List.set_cons_zero, List.set_cons_succ]
                refine ytake_12 (v := ?vv10) (by kernel_rfl) (by kernel_rfl) (by kernel_rfl) (fun _ _ _ h => h) (Or.inl ⟨by rfl, ?hy10⟩) (box2 hbk2) ?_
                case hy10 =>
                  intro wX hSw
                  have hcc := hSw.2
                  go_simp
                  try with_reducible rfl
                try simp only [Act.put, List.setIfInBounds_toArray, List.set_cons_zero, List.set_cons_succ]
                refine ytake_14 (v := ?vv11) (by kernel_rfl) (by kernel_rfl) (by kernel_rfl) (fun _ _ _ h => h) (Or.inl ⟨by rfl, ?hy11⟩) (box2 hbk2) ?_
                case hy11 =>
                  intro wX hSw
                  go_simp
                  try with_reducible rfl
                try simp only [Act.put, List.setIfInBounds_toArray, List.set_cons_zero, List.set_cons_succ]
                refine ytake_15 (v := ?vv12) (by kernel_rfl) (by kernel_rfl) (by kernel_rfl) (fun _ _ _ h => h) (Or.inl ⟨by rfl, ?hy12⟩) (box2 hbk2) ?_
                case hy12 =>
                  intro wX hSw
                  have hcc := hSw.2
                  go_simp
                  try with_reducible rfl
                try simp only [Act.put, List.setIfInBounds_toArray, List.set_cons_zero, List.set_cons_succ]
                refine ytake_16 (v := ?vv13) (by kernel_rfl) (by kernel_rfl) (by kernel_rfl) (fun _ _ _ h => h) (Or.inl ⟨by rfl, ?hy13⟩) (box2 hbk2) ?_
                case hy13 =>
                  intro wX hSw
                  go_simp
                  try with_reducible rfl
                try simp only [Act.put, List.setIfInBounds_toArray, List.set_cons_zero, List.set_cons_succ]
                refine yready_4_7 (by kernel_rfl) ?_ ?_
                · intro KQ hK
                  rw [if_pos (by rfl)]
                  go_simp
                  refine hK.out _ _ (box2 hbk2) (fun _ => ?_)
                  clear hK KQ
                  try simp only [Act.put, List.setIfInBounds_toArray, List.set_cons_zero, List.set_cons_succ]
                  refine yready_7 (by kernel_rfl) ?_
                  intro KQ hK
                  rw [if_pos (by rfl)]
                  try go_simp
                  refine (clone_any f.nm _ (by omega)).mono ?_
                  rintro e w3 ⟨rfl, hb3⟩
                  try go_simp
                  have hz3 := hb3.size
                  have hgl3 := Nat.lt_of_lt_of_le hgl hb3.size
                  have hgbd3 := Nat.lt_of_lt_of_le hgbd hb3.size
                  have k3 : w3.cell? ⟨g, 0, none⟩ = some (.slice AL k cL) := (hb3.cell (p := ⟨g, 0, none⟩) hgl).trans k2
                  have hbk3 := (hb3.block gb hgbd).trans hbk2
                  refine hK.out _ _ (box2 hbk3) (fun _ => ?_)
                  clear hK KQ
                  try simp only [Act.put, List.setIfInBounds_toArray, List.set_cons_zero, List.set_cons_succ]
                  refine yready_10 (by kernel_rfl) ?_
                  intro KQ hK
                  rw [if_pos (by rfl)]
                  try go_simp
                  refine (bclone_any AF nF cF f.dat _ HNF.out (HRF.out.below hb3) (by omega)).mono ?_
                  rintro e w4 ⟨v4, rfl, ho4, hb4⟩
                  rw [u8s_length, HNF.out] at ho4
                  obtain ⟨A4, c4, rfl, _⟩ := own_val ho4
                  try go_simp
                  have hz4 := hb4.size
                  have hgl4 := Nat.lt_of_lt_of_le hgl3 hb4.size
                  have hgbd4 := Nat.lt_of_lt_of_le hgbd3 hb4.size
                  have k4 : w4.cell? ⟨g, 0, none⟩ = some (.slice AL k cL) := (hb4.cell (p := ⟨g, 0, none⟩) hgl3).trans k3
                  have hbk4 := (hb4.block gb hgbd3).trans hbk3
                  refine hK.out _ _ (box2 hbk4) (fun _ => ?_)
                  clear hK KQ
                  try simp only [Act.put, List.setIfInBounds_toArray, List.set_cons_zero, List.set_cons_succ]
                  refine yready_13 (by kernel_rfl) ?_
                  intro KQ hK
                  rw [if_pos (by rfl)]
                  try go_simp
                  refine (bclone_any AF nF cF f.dat _ HNF.out ((HRF.out.below hb3).below hb4) (by omega)).mono ?_
                  rintro e w5 ⟨v5, rfl, ho5, hb5⟩
                  rw [u8s_length, HNF.out] at ho5
                  obtain ⟨A5, c5, rfl, _⟩ := own_val ho5
                  try go_simp
                  have hz5 := hb5.size
                  have hgl5 := Nat.lt_of_lt_of_le hgl4 hb5.size
                  have hgbd5 := Nat.lt_of_lt_of_le hgbd4 hb5.size
                  have k5 : w5.cell? ⟨g, 0, none⟩ = some (.slice AL k cL) := (hb5.cell (p := ⟨g, 0, none⟩) hgl4).trans k4
                  have hbk5 := (hb5.block gb hgbd4).trans hbk4
                  refine hK.out _ _ (box2 hbk5) (fun _ => ?_)
                  clear hK KQ
                  try simp only [Act.put, List.setIfInBounds_toArray, List.set_cons_zero, List.set_cons_succ]
                  refine ytake_17 (v := ?vv14) (by kernel_rfl) (by kernel_rfl) (by kernel_rfl) (fun _ _ _ h => h) (Or.inl ⟨by rfl, ?hy14⟩) (box2 hbk5) ?_
                  case hy14 =>
                    intro wX hSw
                    go_simp
                    try with_reducible rfl
                  try simp only [Act.put, List.setIfInBounds_toArray, List.set_cons_zero, List.set_cons_succ]
                  refine yready_18 (by kernel_rfl) ?_
                  intro KQ hK
                  rw [if_pos (by rfl)]
                  go_simp
                  obtain ⟨w6, hw6⟩ : ∃ w6, w6 = w5.alloc (.cells #[.string f.nm, .slice A4 nF c4, .slice A5 nF c5, .int .i64 nF] 82) := ⟨_, rfl⟩
                  have hb6 : Below w5.heap.size w5 w6 := by rw [hw6]; exact (Below.refl _ _).alloc (Nat.le_refl _) _
                  have hgx : w6.heap[w5.heap.size]? = some (.cells ([.string f.nm, .slice A4 nF c4, .slice A5 nF c5, .int .i64 nF] : List Value).toArray 82 (0, 0)) := by rw [hw6]; exact heap_alloc_new w5 _
                  rw [← hw6]
                  clear hw6
                  have hz6 := hb6.size
                  have hgl6 := Nat.lt_of_lt_of_le hgl5 hb6.size
                  have hgbd6 := Nat.lt_of_lt_of_le hgbd5 hb6.size
                  have k6 : w6.cell? ⟨g, 0, none⟩ = some (.slice AL k cL) := (hb6.cell (p := ⟨g, 0, none⟩) hgl5).trans k5
                  have hbk6 := (hb6.block gb hgbd5).trans hbk5
                  refine hK.out _ _ (box2 hbk6) (fun _ => ?_)
                  clear hK KQ
                  try simp only [Act.put, List.setIfInBounds_toArray, List.set_cons_zero, List.set_cons_succ]
                  have hz3' := hb3.size
                  have hall := new_file HDD.out HFF.out hb3 hb4 hb5 hb6 ho4 ho5 HNF.out HOKN.out HBF.out (by omega) hgx (by omega)
                  obtain ⟨A7, c7, w7, hrun, k7, f7, hbk7', hto⟩ := hall
                  have hbk7 := (hbk7' gb hgbd6 HGBN.out).trans hbk6
                  refine yready_19 (by kernel_rfl) ?_
                  intro KQ hK
                  rw [if_pos (by rfl)]
                  refine wp_call_run _ (.tmp 46) (.tmp 60) 74 74 rfl rfl rfl hrun ?_
                  refine hK.out _ _ (box2 hbk7) (fun _ => ?_)
                  clear hK KQ
                  try simp only [Act.put, List.setIfInBounds_toArray, List.set_cons_zero, List.set_cons_succ]
                  refine ytake_20 (v := ?vv15) (by kernel_rfl) (by kernel_rfl) (by kernel_rfl) (fun _ _ _ h => h) (Or.inl ⟨by rfl, ?hy15⟩) (box2 hbk7) ?_
                  case hy15 =>
                    intro wX hSw
                    go_simp
                    try with_reducible rfl
                  try simp only [Act.put, List.setIfInBounds_toArray, List.set_cons_zero, List.set_cons_succ]
                  refine ytake_21 (v := ?vv16) (by kernel_rfl) (by kernel_rfl) (by kernel_rfl) (fun _ _ _ h => h) (Or.inl ⟨by rfl, ?hy16⟩) (box2 hbk7) ?_
                  case hy16 =>
                    intro wX hSw
                    go_simp
                    try with_reducible rfl
                  try simp only [Act.put, List.setIfInBounds_toArray, List.set_cons_zero, List.set_cons_succ]
                  refine yready_22 (by kernel_rfl) ?_
                  intro KQ hK
                  rw [if_pos (by rfl)]
                  go_simp
                  refine hK.out _ _ (box2 ((heap_setCell_other w7 ⟨g, 0, none⟩ gb _ hgbg).trans hbk7)) (fun _ => ?_)
                  clear hK KQ
                  try simp only [Act.put, List.setIfInBounds_toArray, List.set_cons_zero, List.set_cons_succ]
                  refine wpAnyH_done (by kernel_rfl) ?_ _
                  have hq7 := hto
                  obtain ⟨hto1, hto2⟩ := hq7
                  have HTO1 := Lib.hid hto1
                  have HTO2 := Lib.hid hto2
                  clear hto hto1 hto2 hrun hgx ho4 ho5 hbk2 hbk3 hbk4 hbk5 hbk6 hbk7 hbk7' hb3 hb4 hb5 hb6 k2 k3 k4 k5 k6 k7 f7 hz3 hz4 hz5 hz6 hz3'
                  go_wp2_with fail
                  go_roundw
                  case rel => exact ⟨k + 1, by go_num, by omega, HOKS.out, HTO1.out, HTO2.out⟩
                  case measure => simp [intOf]; omega
                · intro KQ hK
                  rw [if_pos (by rfl)]
                  try go_simp
                  refine (clone_any f.nm _ (by omega)).mono ?_
                  rintro e w3 ⟨rfl, hb3⟩
                  try go_simp
                  have hz3 := hb3.size
                  have hgl3 := Nat.lt_of_lt_of_le hgl hb3.size
                  have hgbd3 := Nat.lt_of_lt_of_le hgbd hb3.size
                  have k3 : w3.cell? ⟨g, 0, none⟩ = some (.slice AL k cL) := (hb3.cell (p := ⟨g, 0, none⟩) hgl).trans k2
                  have hbk3 := (hb3.block gb hgbd).trans hbk2
                  refine hK.out _ _ (box2 hbk3) (fun _ => ?_)
                  clear hK KQ
                  try simp only [Act.put, List.setIfInBounds_toArray, List.set_cons_zero, List.set_cons_succ]
                  refine yready_4_10 (by kernel_rfl) ?_ ?_
                  · intro KQ hK
                    rw [if_pos (by rfl)]
                    go_simp
                    refine hK.out _ _ (box2 hbk3) (fun _ => ?_)
                    clear hK KQ
                    try simp only [Act.put, List.setIfInBounds_toArray, List.set_cons_zero, List.set_cons_succ]
                    refine yready_10 (by kernel_rfl) ?_
                    intro KQ hK
                    rw [if_pos (by rfl)]
                    try go_simp
                    refine (bclone_any AF nF cF f.dat _ HNF.out (HRF.out.below hb3) (by omega)).mono ?_
                    rintro e w4 ⟨v4, rfl, ho4, hb4⟩
                    rw [u8s_length, HNF.out] at ho4
                    obtain ⟨A4, c4, rfl, _⟩ := own_val ho4
                    try go_simp
                    have hz4 := hb4.size
                    have hgl4 := Nat.lt_of_lt_of_le hgl3 hb4.size
                    have hgbd4 := Nat.lt_of_lt_of_le hgbd3 hb4.size
                    have k4 : w4.cell? ⟨g, 0, none⟩ = some (.slice AL k cL) := (hb4.cell (p := ⟨g, 0, none⟩) hgl3).trans k3
                    have hbk4 := (hb4.block gb hgbd3).trans hbk3
                    refine hK.out _ _ (box2 hbk4) (fun _ => ?_)
                    clear hK KQ
                    try simp only [Act.put, List.setIfInBounds_toArray, List.set_cons_zero, List.set_cons_succ]
                    refine yready_13 (by kernel_rfl) ?_
                    intro KQ hK
                    rw [if_pos (by rfl)]
                    try go_simp
                    refine (bclone_any AF nF cF f.dat _ HNF.out ((HRF.out.below hb3).below hb4) (by omega)).mono ?_
                    rintro e w5 ⟨v5, rfl, ho5, hb5⟩
                    rw [u8s_length, HNF.out] at ho5
                    obtain ⟨A5, c5, rfl, _⟩ := own_val ho5
                    try go_simp
                    have hz5 := hb5.size
                    have hgl5 := Nat.lt_of_lt_of_le hgl4 hb5.size
                    have hgbd5 := Nat.lt_of_lt_of_le hgbd4 hb5.size
                    have k5 : w5.cell? ⟨g, 0, none⟩ = some (.slice AL k cL) := (hb5.cell (p := ⟨g, 0, none⟩) hgl4).trans k4
                    have hbk5 := (hb5.block gb hgbd4).trans hbk4
                    refine hK.out _ _ (box2 hbk5) (fun _ => ?_)
                    clear hK KQ
                    try simp only [Act.put, List.setIfInBounds_toArray, List.set_cons_zero, List.set_cons_succ]
                    refine ytake_17 (v := ?vv17) (by kernel_rfl) (by kernel_rfl) (by kernel_rfl) (fun _ _ _ h => h) (Or.inl ⟨by rfl, ?hy17⟩) (box2 hbk5) ?_
                    case hy17 =>
                      intro wX hSw
                      go_simp
                      try with_reducible rfl
                    try simp only [Act.put, List.setIfInBounds_toArray, List.set_cons_zero, List.set_cons_succ]
                    refine yready_18 (by kernel_rfl) ?_
                    intro KQ hK
                    rw [if_pos (by rfl)]
                    go_simp
                    obtain ⟨w6, hw6⟩ : ∃ w6, w6 = w5.alloc (.cells #[.string f.nm, .slice A4 nF c4, .slice A5 nF c5, .int .i64 nF] 82) := ⟨_, rfl⟩
                    have hb6 : Below w5.heap.size w5 w6 := by rw [hw6]; exact (Below.refl _ _).alloc (Nat.le_refl _) _
                    have hgx : w6.heap[w5.heap.size]? = some (.cells ([.string f.nm, .slice A4 nF c4, .slice A5 nF c5, .int .i64 nF] : List Value).toArray 82 (0, 0)) := by rw [hw6]; exact heap_alloc_new w5 _
                    rw [← hw6]
                    clear hw6
                    have hz6 := hb6.size
                    have hgl6 := Nat.lt_of_lt_of_le hgl5 hb6.size
                    have hgbd6 := Nat.lt_of_lt_of_le hgbd5 hb6.size
                    have k6 : w6.cell? ⟨g, 0, none⟩ = some (.slice AL k cL) := (hb6.cell (p := ⟨g, 0, none⟩) hgl5).trans k5
                    have hbk6 := (hb6.block gb hgbd5).trans hbk5
                    refine hK.out _ _ (box2 hbk6) (fun _ => ?_)
                    clear hK KQ
                    try simp only [Act.put, List.setIfInBounds_toArray, List.set_cons_zero, List.set_cons_succ]
                    have hz3' := hb3.size
                    have hall := new_file HDD.out HFF.out hb3 hb4 hb5 hb6 ho4 ho5 HNF.out HOKN.out HBF.out (by omega) hgx (by omega)
                    obtain ⟨A7, c7, w7, hrun, k7, f7, hbk7', hto⟩ := hall
                    have hbk7 := (hbk7' gb hgbd6 HGBN.out).trans hbk6
                    refine yready_19 (by kernel_rfl) ?_
                    intro KQ hK
                    rw [if_pos (by rfl)]
                    refine wp_call_run _ (.tmp 46) (.tmp 60) 74 74 rfl rfl rfl hrun ?_
                    refine hK.out _ _ (box2 hbk7) (fun _ => ?_)
                    clear hK KQ
                    try simp only [Act.put, List.setIfInBounds_toArray, List.set_cons_zero, List.set_cons_succ]
                    refine ytake_20 (v := ?vv18) (by kernel_rfl) (by kernel_rfl) (by kernel_rfl) (fun _ _ _ h => h) (Or.inl ⟨by rfl, ?hy18⟩) (box2 hbk7) ?_
                    case hy18 =>
                      intro wX hSw
                      go_simp
                      try with_reducible rfl
                    try simp only [Act.put, List.setIfInBounds_toArray, List.set_cons_zero, List.set_cons_succ]
                    refine ytake_21 (v := ?vv19) (by kernel_rfl) (by kernel_rfl) (by kernel_rfl) (fun _ _ _ h => h) (Or.inl ⟨by rfl, ?hy19⟩) (box2 hbk7) ?_
                    case hy19 =>
                      intro wX hSw
                      go_simp
                      try with_reducible rfl
                    try simp only [Act.put, List.setIfInBounds_toArray, List.set_cons_zero, List.set_cons_succ]
                    refine yready_22 (by kernel_rfl) ?_
                    intro KQ hK
                    rw [if_pos (by rfl)]
                    go_simp
                    refine hK.out _ _ (box2 ((heap_setCell_other w7 ⟨g, 0, none⟩ gb _ hgbg).trans hbk7)) (fun _ => ?_)
                    clear hK KQ
                    try simp only [Act.put, List.setIfInBounds_toArray, List.set_cons_zero, List.set_cons_succ]
                    refine wpAnyH_done (by kernel_rfl) ?_ _
                    have hq7 := hto
                    obtain ⟨hto1, hto2⟩ := hq7
                    have HTO1 := Lib.hid hto1
                    have HTO2 := Lib.hid hto2
                    clear hto hto1 hto2 hrun hgx ho4 ho5 hbk2 hbk3 hbk4 hbk5 hbk6 hbk7 hbk7' hb3 hb4 hb5 hb6 k2 k3 k4 k5 k6 k7 f7 hz3 hz4 hz5 hz6 hz3'
                    go_wp2_with fail
                    go_roundw
                    case rel => exact ⟨k + 1, by go_num, by omega, HOKS.out, HTO1.out, HTO2.out⟩
                    case measure => simp [intOf]; omega
                  · intro KQ hK
                    rw [if_pos (by rfl)]
                    try go_simp
                    refine (bclone_any AF nF cF f.dat _ HNF.out (HRF.out.below hb3) (by omega)).mono ?_
                    rintro e w4 ⟨v4, rfl, ho4, hb4⟩
                    rw [u8s_length, HNF.out] at ho4
                    obtain ⟨A4, c4, rfl, _⟩ := own_val ho4
                    try go_simp
                    have hz4 := hb4.size
                    have hgl4 := Nat.lt_of_lt_of_le hgl3 hb4.size
                    have hgbd4 := Nat.lt_of_lt_of_le hgbd3 hb4.size
                    have k4 : w4.cell? ⟨g, 0, none⟩ = some (.slice AL k cL) := (hb4.cell (p := ⟨g, 0, none⟩) hgl3).trans k3
                    have hbk4 := (hb4.block gb hgbd3).trans hbk3
                    refine hK.out _ _ (box2 hbk4) (fun _ => ?_)
                    clear hK KQ
                    try simp only [Act.put, List.setIfInBounds_toArray, List.set_cons_zero, List.set_cons_succ]
                    refine yready_4_13 (by kernel_rfl) ?_ ?_
                    · intro KQ hK
                      rw [if_pos (by rfl)]
                      go_simp
                      refine hK.out _ _ (box2 hbk4) (fun _ => ?_)
                      clear hK KQ
                      try simp only [Act.put, List.setIfInBounds_toArray, List.set_cons_zero, List.set_cons_succ]
                      refine yready_13 (by kernel_rfl) ?_
                      intro KQ hK
                      rw [if_pos (by rfl)]
                      try go_simp
                      refine (bclone_any AF nF cF f.dat _ HNF.out ((HRF.out.below hb3).below hb4) (by omega)).mono ?_
                      rintro e w5 ⟨v5, rfl, ho5, hb5⟩
                      rw [u8s_length, HNF.out] at ho5
                      obtain ⟨A5, c5, rfl, _⟩ := own_val ho5
                      try go_simp
                      have hz5 := hb5.size
                      have hgl5 := Nat.lt_of_lt_of_le hgl4 hb5.size
                      have hgbd5 := Nat.lt_of_lt_of_le hgbd4 hb5.size
                      have k5 : w5.cell? ⟨g, 0, none⟩ = some (.slice AL k cL) := (hb5.cell (p := ⟨g, 0, none⟩) hgl4).trans k4
                      have hbk5 := (hb5.block gb hgbd4).trans hbk4
                      refine hK.out _ _ (box2 hbk5) (fun _ => ?_)
                      clear hK KQ
                      try simp only [Act.put, List.setIfInBounds_toArray, List.set_cons_zero, List.set_cons_succ]
                      refine ytake_17 (v := ?vv20) (by kernel_rfl) (by kernel_rfl) (by kernel_rfl) (fun _ _ _ h => h) (Or.inl ⟨by rfl, ?hy20⟩) (box2 hbk5) ?_
                      case hy20 =>
                        intro wX hSw
                        go_simp
                        try with_reducible rfl
                      try simp only [Act.put, List.setIfInBounds_toArray, List.set_cons_zero, List.set_cons_succ]
                      refine yready_18 (by kernel_rfl) ?_
                      intro KQ hK
                      rw [if_pos (by rfl)]
                      go_simp
                      obtain ⟨w6, hw6⟩ : ∃ w6, w6 = w5.alloc (.cells #[.string f.nm, .slice A4 nF c4, .slice A5 nF c5, .int .i64 nF] 82) := ⟨_, rfl⟩
                      have hb6 : Below w5.heap.size w5 w6 := by rw [hw6]; exact (Below.refl _ _).alloc (Nat.le_refl _) _
                      have hgx : w6.heap[w5.heap.size]? = some (.cells ([.string f.nm, .slice A4 nF c4, .slice A5 nF c5, .int .i64 nF] : List Value).toArray 82 (0, 0)) := by rw [hw6]; exact heap_alloc_new w5 _
                      rw [← hw6]
                      clear hw6
                      have hz6 := hb6.size
                      have hgl6 := Nat.lt_of_lt_of_le hgl5 hb6.size
                      have hgbd6 := Nat.lt_of_lt_of_le hgbd5 hb6.size
                      have k6 : w6.cell? ⟨g, 0, none⟩ = some (.slice AL k cL) := (hb6.cell (p := ⟨g, 0, none⟩) hgl5).trans k5
                      have hbk6 := (hb6.block gb hgbd5).trans hbk5
                      refine hK.out _ _ (box2 hbk6) (fun _ => ?_)
                      clear hK KQ
                      try simp only [Act.put, List.setIfInBounds_toArray, List.set_cons_zero, List.set_cons_succ]
                      have hz3' := hb3.size
                      have hall := new_file HDD.out HFF.out hb3 hb4 hb5 hb6 ho4 ho5 HNF.out HOKN.out HBF.out (by omega) hgx (by omega)
                      obtain ⟨A7, c7, w7, hrun, k7, f7, hbk7', hto⟩ := hall
                      have hbk7 := (hbk7' gb hgbd6 HGBN.out).trans hbk6
                      refine yready_19 (by kernel_rfl) ?_
                      intro KQ hK
                      rw [if_pos (by rfl)]
                      refine wp_call_run _ (.tmp 46) (.tmp 60) 74 74 rfl rfl rfl hrun ?_
                      refine hK.out _ _ (box2 hbk7) (fun _ => ?_)
                      clear hK KQ
                      try simp only [Act.put, List.setIfInBounds_toArray, List.set_cons_zero, List.set_cons_succ]
                      refine ytake_20 (v := ?vv21) (by kernel_rfl) (by kernel_rfl) (by kernel_rfl) (fun _ _ _ h => h) (Or.inl ⟨by rfl, ?hy21⟩) (box2 hbk7) ?_
                      case hy21 =>
                        intro wX hSw
                        go_simp
                        try with_reducible rfl
                      try simp only [Act.put, List.setIfInBounds_toArray, List.set_cons_zero, List.set_cons_succ]
                      refine ytake_21 (v := ?vv22) (by kernel_rfl) (by kernel_rfl) (by kernel_rfl) (fun _ _ _ h => h) (Or.inl ⟨by rfl, ?hy22⟩) (box2 hbk7) ?_
                      case hy22 =>
                        intro wX hSw
                        go_simp
                        try with_reducible rfl
                      try simp only [Act.put, List.setIfInBounds_toArray, List.set_cons_zero, List.set_cons_succ]
                      refine yready_22 (by kernel_rfl) ?_
                      intro KQ hK
                      rw [if_pos (by rfl)]
                      go_simp
                      refine hK.out _ _ (box2 ((heap_setCell_other w7 ⟨g, 0, none⟩ gb _ hgbg).trans hbk7)) (fun _ => ?_)
                      clear hK KQ
                      try simp only [Act.put, List.setIfInBounds_toArray, List.set_cons_zero, List.set_cons_succ]
                      refine wpAnyH_done (by kernel_rfl) ?_ _
                      have hq7 := hto
                      obtain ⟨hto1, hto2⟩ := hq7
                      have HTO1 := Lib.hid hto1
                      have HTO2 := Lib.hid hto2
                      clear hto hto1 hto2 hrun hgx ho4 ho5 hbk2 hbk3 hbk4 hbk5 hbk6 hbk7 hbk7' hb3 hb4 hb5 hb6 k2 k3 k4 k5 k6 k7 f7 hz3 hz4 hz5 hz6 hz3'
                      go_wp2_with fail
                      go_roundw
                      case rel => exact ⟨k + 1, by go_num, by omega, HOKS.out, HTO1.out, HTO2.out⟩
                      case measure => simp [intOf]; omega
                    · intro KQ hK
                      rw [if_pos (by rfl)]
                      try go_simp
                      refine (bclone_any AF nF cF f.dat _ HNF.out ((HRF.out.below hb3).below hb4) (by omega)).mono ?_
                      rintro e w5 ⟨v5, rfl, ho5, hb5⟩
                      rw [u8s_length, HNF.out] at ho5
                      obtain ⟨A5, c5, rfl, _⟩ := own_val ho5
                      try go_simp
                      have hz5 := hb5.size
                      have hgl5 := Nat.lt_of_lt_of_le hgl4 hb5.size
                      have hgbd5 := Nat.lt_of_lt_of_le hgbd4 hb5.size
                      have k5 : w5.cell? ⟨g, 0, none⟩ = some (.slice AL k cL) := (hb5.cell (p := ⟨g, 0, none⟩) hgl4).trans k4
                      have hbk5 := (hb5.block gb hgbd4).trans hbk4
                      refine hK.out _ _ (box2 hbk5) (fun _ => ?_)
                      clear hK KQ
                      try simp only [Act.put, List.setIfInBounds_toArray, List.set_cons_zero, List.set_cons_succ]
                      refine ytake_17 (v := ?vv23) (by kernel_rfl) (by kernel_rfl) (by kernel_rfl) (fun _ _ _ h => h) (Or.inl ⟨by rfl, ?hy23⟩) (box2 hbk5) ?_
                      case hy23 =>
                        intro wX hSw
                        go_simp
                        try with_reducible rfl
                      try simp only [Act.put, List.setIfInBounds_toArray, List.set_cons_zero, List.set_cons_succ]
                      refine yready_4_18 (by kernel_rfl) ?_ ?_
                      · intro KQ hK
                        rw [if_pos (by rfl)]
                        go_simp
                        refine hK.out _ _ (box2 hbk5) (fun _ => ?_)
                        clear hK KQ
                        try simp only [Act.put, List.setIfInBounds_toArray, List.set_cons_zero, List.set_cons_succ]
                        refine yready_18 (by kernel_rfl) ?_
                        intro KQ hK
                        rw [if_pos (by rfl)]
                        go_simp
                        obtain ⟨w6, hw6⟩ : ∃ w6, w6 = w5.alloc (.cells #[.string f.nm, .slice A4 nF c4, .slice A5 nF c5, .int .i64 nF] 82) := ⟨_, rfl⟩
                        have hb6 : Below w5.heap.size w5 w6 := by rw [hw6]; exact (Below.refl _ _).alloc (Nat.le_refl _) _
                        have hgx : w6.heap[w5.heap.size]? = some (.cells ([.string f.nm, .slice A4 nF c4, .slice A5 nF c5, .int .i64 nF] : List Value).toArray 82 (0, 0)) := by rw [hw6]; exact heap_alloc_new w5 _
                        rw [← hw6]
                        clear hw6
                        have hz6 := hb6.size
                        have hgl6 := Nat.lt_of_lt_of_le hgl5 hb6.size
                        have hgbd6 := Nat.lt_of_lt_of_le hgbd5 hb6.size
                        have k6 : w6.cell? ⟨g, 0, none⟩ = some (.slice AL k cL) := (hb6.cell (p := ⟨g, 0, none⟩) hgl5).trans k5
                        have hbk6 := (hb6.block gb hgbd5).trans hbk5
                        refine hK.out _ _ (box2 hbk6) (fun _ => ?_)
                        clear hK KQ
                        try simp only [Act.put, List.setIfInBounds_toArray, List.set_cons_zero, List.set_cons_succ]
                        have hz3' := hb3.size
                        have hall := new_file HDD.out HFF.out hb3 hb4 hb5 hb6 ho4 ho5 HNF.out HOKN.out HBF.out (by omega) hgx (by omega)
                        obtain ⟨A7, c7, w7, hrun, k7, f7, hbk7', hto⟩ := hall
                        have hbk7 := (hbk7' gb hgbd6 HGBN.out).trans hbk6
                        refine yready_19 (by kernel_rfl) ?_
                        intro KQ hK
                        rw [if_pos (by rfl)]
                        refine wp_call_run _ (.tmp 46) (.tmp 60) 74 74 rfl rfl rfl hrun ?_
                        refine hK.out _ _ (box2 hbk7) (fun _ => ?_)
                        clear hK KQ
                        try simp only [Act.put, List.setIfInBounds_toArray, List.set_cons_zero, List.set_cons_succ]
                        refine ytake_20 (v := ?vv24) (by kernel_rfl) (by kernel_rfl) (by kernel_rfl) (fun _ _ _ h => h) (Or.inl ⟨by rfl, ?hy24⟩) (box2 hbk7) ?_
                        case hy24 =>
                          intro wX hSw
                          go_simp
                          try with_reducible rfl
                        try simp only [Act.put, List.setIfInBounds_toArray, List.set_cons_zero, List.set_cons_succ]
                        refine ytake_21 (v := ?vv25) (by kernel_rfl) (by kernel_rfl) (by kernel_rfl) (fun _ _ _ h => h) (Or.inl ⟨by rfl, ?hy25⟩) (box2 hbk7) ?_
                        case hy25 =>
                          intro wX hSw
                          go_simp
                          try with_reducible rfl
                        try simp only [Act.put, List.setIfInBounds_toArray, List.set_cons_zero, List.set_cons_succ]
                        refine yready_22 (by kernel_rfl) ?_
                        intro KQ hK
                        rw [if_pos (by rfl)]
                        go_simp
                        refine hK.out _ _ (box2 ((heap_setCell_other w7 ⟨g, 0, none⟩ gb _ hgbg).trans hbk7)) (fun _ => ?_)
                        clear hK KQ
                        try simp only [Act.put, List.setIfInBounds_toArray, List.set_cons_zero, List.set_cons_succ]
                        refine wpAnyH_done (by kernel_rfl) ?_ _
                        have hq7 := hto
                        obtain ⟨hto1, hto2⟩ := hq7
                        have HTO1 := Lib.hid hto1
                        have HTO2 := Lib.hid hto2
                        clear hto hto1 hto2 hrun hgx ho4 ho5 hbk2 hbk3 hbk4 hbk5 hbk6 hbk7 hbk7' hb3 hb4 hb5 hb6 k2 k3 k4 k5 k6 k7 f7 hz3 hz4 hz5 hz6 hz3'
                        go_wp2_with fail
                        go_roundw
                        case rel => exact ⟨k + 1, by go_num, by omega, HOKS.out, HTO1.out, HTO2.out⟩
                        case measure => simp [intOf]; omega
                      · intro KQ hK
                        rw [if_pos (by rfl)]
                        go_simp
                        obtain ⟨w6, hw6⟩ : ∃ w6, w6 = w5.alloc (.cells #[.string f.nm, .slice A4 nF c4, .slice A5 nF c5, .int .i64 nF] 82) := ⟨_, rfl⟩
                        have hb6 : Below w5.heap.size w5 w6 := by rw [hw6]; exact (Below.refl _ _).alloc (Nat.le_refl _) _
                        have hgx : w6.heap[w5.heap.size]? = some (.cells ([.string f.nm, .slice A4 nF c4, .slice A5 nF c5, .int .i64 nF] : List Value).toArray 82 (0, 0)) := by rw [hw6]; exact heap_alloc_new w5 _
                        rw [← hw6]
                        clear hw6
                        have hz6 := hb6.size
                        have hgl6 := Nat.lt_of_lt_of_le hgl5 hb6.size
                        have hgbd6 := Nat.lt_of_lt_of_le hgbd5 hb6.size
                        have k6 : w6.cell? ⟨g, 0, none⟩ = some (.slice AL k cL) := (hb6.cell (p := ⟨g, 0, none⟩) hgl5).trans k5
                        have hbk6 := (hb6.block gb hgbd5).trans hbk5
                        refine hK.out _ _ (box2 hbk6) (fun _ => ?_)
                        clear hK KQ
                        try simp only [Act.put, List.setIfInBounds_toArray, List.set_cons_zero, List.set_cons_succ]
                        refine yready_4 (by kernel_rfl) ?_
                        intro KQ hK
                        rw [if_pos (by rfl)]
                        go_simp
                        refine hK.out _ _ (box2 hbk6) (fun _ => ?_)
                        clear hK KQ
                        try simp only [Act.put, List.setIfInBounds_toArray, List.set_cons_zero, List.set_cons_succ]
                        have hz3' := hb3.size
                        have hall := new_file HDD.out HFF.out hb3 hb4 hb5 hb6 ho4 ho5 HNF.out HOKN.out HBF.out (by omega) hgx (by omega)
                        obtain ⟨A7, c7, w7, hrun, k7, f7, hbk7', hto⟩ := hall
                        have hbk7 := (hbk7' gb hgbd6 HGBN.out).trans hbk6
                        refine yready_19 (by kernel_rfl) ?_
                        intro KQ hK
                        rw [if_pos (by rfl)]
                        refine wp_call_run _ (.tmp 46) (.tmp 60) 74 74 rfl rfl rfl hrun ?_
                        refine hK.out _ _ (box2 hbk7) (fun _ => ?_)
                        clear hK KQ
                        try simp only [Act.put, List.setIfInBounds_toArray, List.set_cons_zero, List.set_cons_succ]
                        refine ytake_20 (v := ?vv26) (by kernel_rfl) (by kernel_rfl) (by kernel_rfl) (fun _ _ _ h => h) (Or.inl ⟨by rfl, ?hy26⟩) (box2 hbk7) ?_
                        case hy26 =>
                          intro wX hSw
                          go_simp
                          try with_reducible rfl
                        try simp only [Act.put, List.setIfInBounds_toArray, List.set_cons_zero, List.set_cons_succ]
                        refine ytake_21 (v := ?vv27) (by kernel_rfl) (by kernel_rfl) (by kernel_rfl) (fun _ _ _ h => h) (Or.inl ⟨by rfl, ?hy27⟩) (box2 hbk7) ?_
                        case hy27 =>
                          intro wX hSw
                          go_simp
                          try with_reducible rfl
                        try simp only [Act.put, List.setIfInBounds_toArray, List.set_cons_zero, List.set_cons_succ]
                        refine yready_22 (by kernel_rfl) ?_
                        intro KQ hK
                        rw [if_pos (by rfl)]
                        go_simp
                        refine hK.out _ _ (box2 ((heap_setCell_other w7 ⟨g, 0, none⟩ gb _ hgbg).trans hbk7)) (fun _ => ?_)
                        clear hK KQ
                        try simp only [Act.put, List.setIfInBounds_toArray, List.set_cons_zero, List.set_cons_succ]
                        refine wpAnyH_done (by kernel_rfl) ?_ _
                        have hq7 := hto
                        obtain ⟨hto1, hto2⟩ := hq7
                        have HTO1 := Lib.hid hto1
                        have HTO2 := Lib.hid hto2
                        clear hto hto1 hto2 hrun hgx ho4 ho5 hbk2 hbk3 hbk4 hbk5 hbk6 hbk7 hbk7' hb3 hb4 hb5 hb6 k2 k3 k4 k5 k6 k7 f7 hz3 hz4 hz5 hz6 hz3'
                        go_wp2_with fail
                        go_roundw
                        case rel => exact ⟨k + 1, by go_num, by omega, HOKS.out, HTO1.out, HTO2.out⟩
                        case measure => simp [intOf]; omega
              · obtain ⟨f', hf', kp⟩ := HPREV.out (by omega)
                have j3 : (0 : Int) < (k : Int) := by omega
                have j4 : IntKind.i64.wrap ((k : Int) - 1) = (k : Int) - 1 := IntWalk.i64_in _ (by omega)
                have j5 : (0 : Int) ≤ (k : Int) - 1 := by omega
                have j6 : (k : Int) - 1 < (n : Int) := by omega
                have j7 : ((k : Int) - 1).toNat = k - 1 := by omega
                have j8 : 1 ≤ k := by omega
                have j9 : decide (0 < k) = true := by simp; omega
                cases hlt2 : ltN f'.1 f.nm with
                | false =>
                  have HNO : Hid (mayB fs = false) := mayB_no (i := k) (by rw [HFL.out]; exact hlt) (by
                    rw [okAt, HFK.out]
                    show (okName f.nm && (decide (f.dat.length ≤ 1048576) && (decide (k = 0) || _))) = false
                    rw [hf', decide_eq_false hk0]
                    show (okName f.nm && (decide (f.dat.length ≤ 1048576) && (false || ltN f'.1 f.nm))) = false
                    rw [hlt2, Bool.or_false, Bool.and_false, Bool.and_false])
                  have HF' := Lib.hid hf'
                  have hble : Op.bytesLess f'.1.toList f.nm.toList = false := hlt2
                  clear hk0 hlt2 hf'
                  go_wp2_with fail
                  go_quiet (fail)
                  go_wp2_with fail
                  go_step3
                  show 0 = 0 ∧ NewJ (mayB fs = false) w _ _
                  exact ⟨rfl, .mk _ _ _ _ _ _ _ _ _ _ _ _ _ _ _ _ _ _ _ _ _ _ _ _ _ _ _ _ _ _ _ _ _ _ _ _ _ _ _ _ _ _ _ _ _ _ _ _ _ _ _ _ _ _ _ _ _ _ _ _ _ _ _ _ _ _ _ HNO.out (below_n HBW2.out nq)⟩
                | true =>
                  have HF' := Lib.hid hf'
                  have HLT2 := Lib.hid hlt2
                  have HK0 := Lib.hid hk0
                  have hble : Op.bytesLess f'.1.toList f.nm.toList = true := hlt2
                  clear hk0 hlt2 hf'
                  go_wp2_with fail
                  go_quiet (fail)
                  clear j4 j5 j6 j7
                  obtain ⟨wd, hwd⟩ : ∃ wd, wd = (w2.drewN nq).drew := ⟨_, rfl⟩
                  have hbd : Below w2.heap.size w2 wd := by rw [hwd]; exact (below_n (Below.refl _ _) nq).drew
                  have hbk2 := (hbd.block gb hgb2).trans HBK2.out
                  obtain ⟨F, ⟨vL, ms, hdr⟩, hFw⟩ := HND.out
                  have hmk : ms.length = k := by
                    have h1 := hdr.lenL
                    rw [dNew, List.length_map, List.length_take] at h1
                    have := HFL.out
                    omega
                  obtain ⟨AL, cL, hvL, hnc, hcm, _⟩ := hdr.slice hmk
                  subst hvL
                  have hdd := (hdr.below HB2.out).below hbd
                  have hgl : g < wd.heap.size := hdd.lt _ hdd.here
                  have hgbd : gb < wd.heap.size := Nat.lt_of_lt_of_le hgb2 hbd.size
                  have k2 := hdd.c0
                  have HGBN : Hid ((Value.slice AL k cL).ownBlock ≠ some gb) := fun e => by have h1 := hdr.lt _ (hdr.rowF e); have h2 := HGB.out; omega
                  have hgbg : gb ≠ g := fun e => by have h1 := hdr.lt _ hdr.here; have h2 := HGB.out; omega
                  have HDD : Hid (DiskIn wd g F (dNew (fs.take k)) (.slice AL k cL) 0 ms ∧ (∀ k, F k → w.heap.size ≤ k) ∧ Below w.heap.size w wd ∧ ms.length = k) := ⟨hdd, hFw, HBW2.out.trans (hbd.mono HBW2.out.size), hmk⟩
                  have hnames : namesF (dNew (fs.take (k + 1))).L = namesF (dNew (fs.take k)).L ++ [f.nm] := by rw [dNew, dNew, take_up HFK.out]; simp [namesF, mkPF, FL.pl]
                  have hnl : (namesF (dNew (fs.take k)).L).length = k := by
                    have := HFL.out
                    simp only [namesF, dNew, List.length_map, List.length_take]
                    omega
                  have HFF : Hid (fs[k]? = some f.pl ∧ RiseN (namesF (dNew (fs.take (k + 1))).L)) := by
                    refine ⟨HFK.out, ?_⟩
                    rw [hnames]
                    refine rise_snoc hdr.rise fun a ha h0 => ?_
                    rw [hnl] at ha h0
                    rw [namesF, dNew, List.getElem?_map, List.getElem?_map, List.getElem?_take_of_lt (by omega), HF'.out] at ha
                    cases ha
                    exact HLT2.out
                  have HOKS : Hid (∀ j, j < k + 1 → okAt fs j = true) := fun j hj => by
                    rcases Nat.lt_or_ge j k with h1 | h1
                    · exact HOK.out j h1
                    · obtain rfl : j = k := by omega
                      rw [okAt, HFK.out]
                      show (okName f.nm && (decide (f.dat.length ≤ 1048576) && _)) = true
                      rw [HOKN.out, HNF.out, decide_eq_true (by omega), Bool.true_and, Bool.true_and]
                      rw [HF'.out]
                      show (decide (j = 0) || ltN f'.1 f.nm) = true
                      rw [HLT2.out, Bool.or_true]
                  have HRF := Lib.hid (HRF.out.below hbd)
                  have hok32 := okName_size HOKN.out
                  have HWD := Lib.hid hwd
                  have hk16 : k < 16 := by omega
                  clear hdr hFw hdd hbd hwd hnames hnl hmk b0 b1
                  go_wp2_with fail
                  refine wp_region_held_drew (S := fun w' => w'.cell? ⟨gb, 0, none⟩ = some (.string f.nm) ∧ w'.cell? ⟨gb, 1, none⟩ = some (.slice AF nF cF)) (by kernel_rfl) (by rw [← HWD.out]; exact box2 hbk2) (fun _ => ?_)
                  rw [← HWD.out]
                  refine ytake_0 (v := ?vv28) (by kernel_rfl) (by kernel_rfl) (by kernel_rfl) (fun _ _ _ h => h) (Or.inl ⟨by rfl, ?hy28⟩) (box2 hbk2) ?_
                  case hy28 =>
                    intro wX hSw
                    go_simp
                    try with_reducible rfl
                  try simp only [Act.put, List.setIfInBounds_toArray, List.set_cons_zero, List.set_cons_succ]
                  refine ytake_1 (v := ?vv29) (by kernel_rfl) (by kernel_rfl) (by kernel_rfl) (fun _ _ _ h => h) (Or.inl ⟨by rfl, ?hy29⟩) (box2 hbk2) ?_
                  case hy29 =>
                    intro wX hSw
                    go_simp
                    try with_reducible rfl
                  try simp only [Act.put, List.setIfInBounds_toArray, List.set_cons_zero, List.set_cons_succ]
                  refine ytake_2 (v := ?vv30) (by kernel_rfl) (by kernel_rfl) (by kernel_rfl) (fun _ _ _ h => h) (Or.inl ⟨by rfl, ?hy30⟩) (box2 hbk2) ?_
                  case hy30 =>
                    intro wX hSw
                    go_simp
                    try with_reducible rfl
                  try simp only [Act.put, List.setIfInBounds_toArray, List.set_cons_zero, List.set_cons_succ]
                  refine ytake_3 (v := ?vv31) (by kernel_rfl) (by kernel_rfl) (by kernel_rfl) (fun _ _ _ h => h) (Or.inl ⟨by rfl, ?hy31⟩) (box2 hbk2) ?_
                  case hy31 =>
                    intro wX hSw
                    go_simp
                    try with_reducible rfl
                  try simp only [Act.put, List.setIfInBounds_toArray, List.set_cons_zero, List.set_cons_succ]
                  refine ytake_5 (v := ?vv32) (by kernel_rfl) (by kernel_rfl) (by kernel_rfl) (fun _ _ _ h => h) (Or.inl ⟨by rfl, ?hy32⟩) (box2 hbk2) ?_
                  case hy32 =>
                    intro wX hSw
                    go_simp
                    try with_reducible rfl
                  try simp only [Act.put, List.setIfInBounds_toArray, List.set_cons_zero, List.set_cons_succ]
                  refine ytake_6 (v := ?vv33) (by kernel_rfl) (by kernel_rfl) (by kernel_rfl) (fun _ _ _ h => h) (Or.inl ⟨by rfl, ?hy33⟩) (box2 hbk2) ?_
                  case hy33 =>
                    intro wX hSw
                    have hcc := hSw.1
                    go_simp
                    try with_reducible rfl
                  try simp only [Act.put, List.setIfInBounds_toArray, List.set_cons_zero, List.set_cons_succ]
                  refine ytake_8 (v := ?vv34) (by kernel_rfl) (by kernel_rfl) (by kernel_rfl) (fun _ _ _ h => h) (Or.inl ⟨by rfl, ?hy34⟩) (box2 hbk2) ?_
                  case hy34 =>
                    intro wX hSw
                    go_simp
                    try with_reducible rfl
                  try simp only [Act.put, List.setIfInBounds_toArray, List.set_cons_zero, List.set_cons_succ]
                  refine ytake_9 (v := ?vv35) (by kernel_rfl) (by kernel_rfl) (by kernel_rfl) (fun _ _ _ h => h) (Or.inl ⟨by rfl, ?hy35⟩) (box2 hbk2) ?_
                  case hy35 =>
                    intro wX hSw
                    have hcc := hSw.2
                    go_simp
                    try with_reducible rfl
                  try simp only [Act.put, List.setIfInBounds_toArray, List.set_cons_zero, List.set_cons_succ]
                  refine ytake_11 (v := ?vv36) (by kernel_rfl) (by kernel_rfl) (by kernel_rfl) (fun _ _ _ h => h) (Or.inl ⟨by rfl, ?hy36⟩) (box2 hbk2) ?_
                  case hy36 =>
                    intro wX hSw
                    go_simp
                    try with_reducible rfl
                  try simp only [Act.put, List.setIfInBounds_toArray, List.set_cons_zero, List.set_cons_succ]
                  refine ytake_12 (v := ?vv37) (by kernel_rfl) (by kernel_rfl) (by kernel_rfl) (fun _ _ _ h => h) (Or.inl ⟨by rfl, ?hy37⟩) (box2 hbk2) ?_
                  case hy37 =>
                    intro wX hSw
                    have hcc := hSw.2
                    go_simp
                    try with_reducible rfl
                  try simp only [Act.put, List.setIfInBounds_toArray, List.set_cons_zero, List.set_cons_succ]
                  refine ytake_14 (v := ?vv38) (by kernel_rfl) (by kernel_rfl) (by kernel_rfl) (fun _ _ _ h => h) (Or.inl ⟨by rfl, ?hy38⟩) (box2 hbk2) ?_
                  case hy38 =>
                    intro wX hSw
                    go_simp
                    try with_reducible rfl
                  try simp only [Act.put, List.setIfInBounds_toArray, List.set_cons_zero, List.set_cons_succ]
                  refine ytake_15 (v := ?vv39) (by kernel_rfl) (by kernel_rfl) (by kernel_rfl) (fun _ _ _ h => h) (Or.inl ⟨by rfl, ?hy39⟩) (box2 hbk2) ?_
                  case hy39 =>
                    intro wX hSw
                    have hcc := hSw.2
                    go_simp
                    try with_reducible rfl
                  try simp only [Act.put, List.setIfInBounds_toArray, List.set_cons_zero, List.set_cons_succ]
                  refine ytake_16 (v := ?vv40) (by kernel_rfl) (by kernel_rfl) (by kernel_rfl) (fun _ _ _ h => h) (Or.inl ⟨by rfl, ?hy40⟩) (box2 hbk2) ?_
                  case hy40 =>
                    intro wX hSw
                    go_simp
                    try with_reducible rfl
                  try simp only [Act.put, List.setIfInBounds_toArray, List.set_cons_zero, List.set_cons_succ]
                  refine yready_4_7 (by kernel_rfl) ?_ ?_
                  · intro KQ hK
                    rw [if_pos (by rfl)]
                    go_simp
                    refine hK.out _ _ (box2 hbk2) (fun _ => ?_)
                    clear hK KQ
                    try simp only [Act.put, List.setIfInBounds_toArray, List.set_cons_zero, List.set_cons_succ]
                    refine yready_7 (by kernel_rfl) ?_
                    intro KQ hK
                    rw [if_pos (by rfl)]
                    try go_simp
                    refine (clone_any f.nm _ (by omega)).mono ?_
                    rintro e w3 ⟨rfl, hb3⟩
                    try go_simp
                    have hz3 := hb3.size
                    have hgl3 := Nat.lt_of_lt_of_le hgl hb3.size
                    have hgbd3 := Nat.lt_of_lt_of_le hgbd hb3.size
                    have k3 : w3.cell? ⟨g, 0, none⟩ = some (.slice AL k cL) := (hb3.cell (p := ⟨g, 0, none⟩) hgl).trans k2
                    have hbk3 := (hb3.block gb hgbd).trans hbk2
                    refine hK.out _ _ (box2 hbk3) (fun _ => ?_)
                    clear hK KQ
                    try simp only [Act.put, List.setIfInBounds_toArray, List.set_cons_zero, List.set_cons_succ]
                    refine yready_10 (by kernel_rfl) ?_
                    intro KQ hK
                    rw [if_pos (by rfl)]
                    try go_simp
                    refine (bclone_any AF nF cF f.dat _ HNF.out (HRF.out.below hb3) (by omega)).mono ?_
                    rintro e w4 ⟨v4, rfl, ho4, hb4⟩
                    rw [u8s_length, HNF.out] at ho4
                    obtain ⟨A4, c4, rfl, _⟩ := own_val ho4
                    try go_simp
                    have hz4 := hb4.size
                    have hgl4 := Nat.lt_of_lt_of_le hgl3 hb4.size
                    have hgbd4 := Nat.lt_of_lt_of_le hgbd3 hb4.size
                    have k4 : w4.cell? ⟨g, 0, none⟩ = some (.slice AL k cL) := (hb4.cell (p := ⟨g, 0, none⟩) hgl3).trans k3
                    have hbk4 := (hb4.block gb hgbd3).trans hbk3
                    refine hK.out _ _ (box2 hbk4) (fun _ => ?_)
                    clear hK KQ
                    try simp only [Act.put, List.setIfInBounds_toArray, List.set_cons_zero, List.set_cons_succ]
                    refine yready_13 (by kernel_rfl) ?_
                    intro KQ hK
                    rw [if_pos (by rfl)]
                    try go_simp
                    refine (bclone_any AF nF cF f.dat _ HNF.out ((HRF.out.below hb3).below hb4) (by omega)).mono ?_
                    rintro e w5 ⟨v5, rfl, ho5, hb5⟩
                    rw [u8s_length, HNF.out] at ho5
                    obtain ⟨A5, c5, rfl, _⟩ := own_val ho5
                    try go_simp
                    have hz5 := hb5.size
                    have hgl5 := Nat.lt_of_lt_of_le hgl4 hb5.size
                    have hgbd5 := Nat.lt_of_lt_of_le hgbd4 hb5.size
                    have k5 : w5.cell? ⟨g, 0, none⟩ = some (.slice AL k cL) := (hb5.cell (p := ⟨g, 0, none⟩) hgl4).trans k4
                    have hbk5 := (hb5.block gb hgbd4).trans hbk4
                    refine hK.out _ _ (box2 hbk5) (fun _ => ?_)
                    clear hK KQ
                    try simp only [Act.put, List.setIfInBounds_toArray, List.set_cons_zero, List.set_cons_succ]
                    refine ytake_17 (v := ?vv41) (by kernel_rfl) (by kernel_rfl) (by kernel_rfl) (fun _ _ _ h => h) (Or.inl ⟨by rfl, ?hy41⟩) (box2 hbk5) ?_
                    case hy41 =>
                      intro wX hSw
                      go_simp
                      try with_reducible rfl
                    try simp only [Act.put, List.setIfInBounds_toArray, List.set_cons_zero, List.set_cons_succ]
                    refine yready_18 (by kernel_rfl) ?_
                    intro KQ hK
                    rw [if_pos (by rfl)]
                    go_simp
                    obtain ⟨w6, hw6⟩ : ∃ w6, w6 = w5.alloc (.cells #[.string f.nm, .slice A4 nF c4, .slice A5 nF c5, .int .i64 nF] 82) := ⟨_, rfl⟩
                    have hb6 : Below w5.heap.size w5 w6 := by rw [hw6]; exact (Below.refl _ _).alloc (Nat.le_refl _) _
                    have hgx : w6.heap[w5.heap.size]? = some (.cells ([.string f.nm, .slice A4 nF c4, .slice A5 nF c5, .int .i64 nF] : List Value).toArray 82 (0, 0)) := by rw [hw6]; exact heap_alloc_new w5 _
                    rw [← hw6]
                    clear hw6
                    have hz6 := hb6.size
                    have hgl6 := Nat.lt_of_lt_of_le hgl5 hb6.size
                    have hgbd6 := Nat.lt_of_lt_of_le hgbd5 hb6.size
                    have k6 : w6.cell? ⟨g, 0, none⟩ = some (.slice AL k cL) := (hb6.cell (p := ⟨g, 0, none⟩) hgl5).trans k5
                    have hbk6 := (hb6.block gb hgbd5).trans hbk5
                    refine hK.out _ _ (box2 hbk6) (fun _ => ?_)
                    clear hK KQ
                    try simp only [Act.put, List.setIfInBounds_toArray, List.set_cons_zero, List.set_cons_succ]
                    have hz3' := hb3.size
                    have hall := new_file HDD.out HFF.out hb3 hb4 hb5 hb6 ho4 ho5 HNF.out HOKN.out HBF.out (by omega) hgx (by omega)
                    obtain ⟨A7, c7, w7, hrun, k7, f7, hbk7', hto⟩ := hall
                    have hbk7 := (hbk7' gb hgbd6 HGBN.out).trans hbk6
                    refine yready_19 (by kernel_rfl) ?_
                    intro KQ hK
                    rw [if_pos (by rfl)]
                    refine wp_call_run _ (.tmp 46) (.tmp 60) 74 74 rfl rfl rfl hrun ?_
                    refine hK.out _ _ (box2 hbk7) (fun _ => ?_)
                    clear hK KQ
                    try simp only [Act.put, List.setIfInBounds_toArray, List.set_cons_zero, List.set_cons_succ]
                    refine ytake_20 (v := ?vv42) (by kernel_rfl) (by kernel_rfl) (by kernel_rfl) (fun _ _ _ h => h) (Or.inl ⟨by rfl, ?hy42⟩) (box2 hbk7) ?_
                    case hy42 =>
                      intro wX hSw
                      go_simp
                      try with_reducible rfl
                    try simp only [Act.put, List.setIfInBounds_toArray, List.set_cons_zero, List.set_cons_succ]
                    refine ytake_21 (v := ?vv43) (by kernel_rfl) (by kernel_rfl) (by kernel_rfl) (fun _ _ _ h => h) (Or.inl ⟨by rfl, ?hy43⟩) (box2 hbk7) ?_
                    case hy43 =>
                      intro wX hSw
                      go_simp
                      try with_reducible rfl
                    try simp only [Act.put, List.setIfInBounds_toArray, List.set_cons_zero, List.set_cons_succ]
                    refine yready_22 (by kernel_rfl) ?_
                    intro KQ hK
                    rw [if_pos (by rfl)]
                    go_simp
                    refine hK.out _ _ (box2 ((heap_setCell_other w7 ⟨g, 0, none⟩ gb _ hgbg).trans hbk7)) (fun _ => ?_)
                    clear hK KQ
                    try simp only [Act.put, List.setIfInBounds_toArray, List.set_cons_zero, List.set_cons_succ]
                    refine wpAnyH_done (by kernel_rfl) ?_ _
                    have hq7 := hto
                    obtain ⟨hto1, hto2⟩ := hq7
                    have HTO1 := Lib.hid hto1
                    have HTO2 := Lib.hid hto2
                    clear hto hto1 hto2 hrun hgx ho4 ho5 hbk2 hbk3 hbk4 hbk5 hbk6 hbk7 hbk7' hb3 hb4 hb5 hb6 k2 k3 k4 k5 k6 k7 f7 hz3 hz4 hz5 hz6 hz3'
                    go_wp2_with fail
                    go_roundw
                    case rel => exact ⟨k + 1, by go_num, by omega, HOKS.out, HTO1.out, HTO2.out⟩
                    case measure => simp [intOf]; omega
                  · intro KQ hK
                    rw [if_pos (by rfl)]
                    try go_simp
                    refine (clone_any f.nm _ (by omega)).mono ?_
                    rintro e w3 ⟨rfl, hb3⟩
                    try go_simp
                    have hz3 := hb3.size
                    have hgl3 := Nat.lt_of_lt_of_le hgl hb3.size
                    have hgbd3 := Nat.lt_of_lt_of_le hgbd hb3.size
                    have k3 : w3.cell? ⟨g, 0, none⟩ = some (.slice AL k cL) := (hb3.cell (p := ⟨g, 0, none⟩) hgl).trans k2
                    have hbk3 := (hb3.block gb hgbd).trans hbk2
                    refine hK.out _ _ (box2 hbk3) (fun _ => ?_)
                    clear hK KQ
                    try simp only [Act.put, List.setIfInBounds_toArray, List.set_cons_zero, List.set_cons_succ]
                    refine yready_4_10 (by kernel_rfl) ?_ ?_
                    · intro KQ hK
                      rw [if_pos (by rfl)]
                      go_simp
                      refine hK.out _ _ (box2 hbk3) (fun _ => ?_)
                      clear hK KQ
                      try simp only [Act.put, List.setIfInBounds_toArray, List.set_cons_zero, List.set_cons_succ]
                      refine yready_10 (by kernel_rfl) ?_
                      intro KQ hK
                      rw [if_pos (by rfl)]
                      try go_simp
                      refine (bclone_any AF nF cF f.dat _ HNF.out (HRF.out.below hb3) (by omega)).mono ?_
                      rintro e w4 ⟨v4, rfl, ho4, hb4⟩
                      rw [u8s_length, HNF.out] at ho4
                      obtain ⟨A4, c4, rfl, _⟩ := own_val ho4
                      try go_simp
                      have hz4 := hb4.size
                      have hgl4 := Nat.lt_of_lt_of_le hgl3 hb4.size
                      have hgbd4 := Nat.lt_of_lt_of_le hgbd3 hb4.size
                      have k4 : w4.cell? ⟨g, 0, none⟩ = some (.slice AL k cL) := (hb4.cell (p := ⟨g, 0, none⟩) hgl3).trans k3
                      have hbk4 := (hb4.block gb hgbd3).trans hbk3
                      refine hK.out _ _ (box2 hbk4) (fun _ => ?_)
                      clear hK KQ
                      try simp only [Act.put, List.setIfInBounds_toArray, List.set_cons_zero, List.set_cons_succ]
                      refine yready_13 (by kernel_rfl) ?_
                      intro KQ hK
                      rw [if_pos (by rfl)]
                      try go_simp
                      refine (bclone_any AF nF cF f.dat _ HNF.out ((HRF.out.below hb3).below hb4) (by omega)).mono ?_
                      rintro e w5 ⟨v5, rfl, ho5, hb5⟩
                      rw [u8s_length, HNF.out] at ho5
                      obtain ⟨A5, c5, rfl, _⟩ := own_val ho5
                      try go_simp
                      have hz5 := hb5.size
                      have hgl5 := Nat.lt_of_lt_of_le hgl4 hb5.size
                      have hgbd5 := Nat.lt_of_lt_of_le hgbd4 hb5.size
                      have k5 : w5.cell? ⟨g, 0, none⟩ = some (.slice AL k cL) := (hb5.cell (p := ⟨g, 0, none⟩) hgl4).trans k4
                      have hbk5 := (hb5.block gb hgbd4).trans hbk4
                      refine hK.out _ _ (box2 hbk5) (fun _ => ?_)
                      clear hK KQ
                      try simp only [Act.put, List.setIfInBounds_toArray, List.set_cons_zero, List.set_cons_succ]
                      refine ytake_17 (v := ?vv44) (by kernel_rfl) (by kernel_rfl) (by kernel_rfl) (fun _ _ _ h => h) (Or.inl ⟨by rfl, ?hy44⟩) (box2 hbk5) ?_
                      case hy44 =>
                        intro wX hSw
                        go_simp
                        try with_reducible rfl
                      try simp only [Act.put, List.setIfInBounds_toArray, List.set_cons_zero, List.set_cons_succ]
                      refine yready_18 (by kernel_rfl) ?_
                      intro KQ hK
                      rw [if_pos (by rfl)]
                      go_simp
                      obtain ⟨w6, hw6⟩ : ∃ w6, w6 = w5.alloc (.cells #[.string f.nm, .slice A4 nF c4, .slice A5 nF c5, .int .i64 nF] 82) := ⟨_, rfl⟩
                      have hb6 : Below w5.heap.size w5 w6 := by rw [hw6]; exact (Below.refl _ _).alloc (Nat.le_refl _) _
                      have hgx : w6.heap[w5.heap.size]? = some (.cells ([.string f.nm, .slice A4 nF c4, .slice A5 nF c5, .int .i64 nF] : List Value).toArray 82 (0, 0)) := by rw [hw6]; exact heap_alloc_new w5 _
                      rw [← hw6]
                      clear hw6
                      have hz6 := hb6.size
                      have hgl6 := Nat.lt_of_lt_of_le hgl5 hb6.size
                      have hgbd6 := Nat.lt_of_lt_of_le hgbd5 hb6.size
                      have k6 : w6.cell? ⟨g, 0, none⟩ = some (.slice AL k cL) := (hb6.cell (p := ⟨g, 0, none⟩) hgl5).trans k5
                      have hbk6 := (hb6.block gb hgbd5).trans hbk5
                      refine hK.out _ _ (box2 hbk6) (fun _ => ?_)
                      clear hK KQ
                      try simp only [Act.put, List.setIfInBounds_toArray, List.set_cons_zero, List.set_cons_succ]
                      have hz3' := hb3.size
                      have hall := new_file HDD.out HFF.out hb3 hb4 hb5 hb6 ho4 ho5 HNF.out HOKN.out HBF.out (by omega) hgx (by omega)
                      obtain ⟨A7, c7, w7, hrun, k7, f7, hbk7', hto⟩ := hall
                      have hbk7 := (hbk7' gb hgbd6 HGBN.out).trans hbk6
                      refine yready_19 (by kernel_rfl) ?_
                      intro KQ hK
                      rw [if_pos (by rfl)]
                      refine wp_call_run _ (.tmp 46) (.tmp 60) 74 74 rfl rfl rfl hrun ?_
                      refine hK.out _ _ (box2 hbk7) (fun _ => ?_)
                      clear hK KQ
                      try simp only [Act.put, List.setIfInBounds_toArray, List.set_cons_zero, List.set_cons_succ]
                      refine ytake_20 (v := ?vv45) (by kernel_rfl) (by kernel_rfl) (by kernel_rfl) (fun _ _ _ h => h) (Or.inl ⟨by rfl, ?hy45⟩) (box2 hbk7) ?_
                      case hy45 =>
                        intro wX hSw
                        go_simp
                        try with_reducible rfl
                      try simp only [Act.put, List.setIfInBounds_toArray, List.set_cons_zero, List.set_cons_succ]
                      refine ytake_21 (v := ?vv46) (by kernel_rfl) (by kernel_rfl) (by kernel_rfl) (fun _ _ _ h => h) (Or.inl ⟨by rfl, ?hy46⟩) (box2 hbk7) ?_
                      case hy46 =>
                        intro wX hSw
                        go_simp
                        try with_reducible rfl
                      try simp only [Act.put, List.setIfInBounds_toArray, List.set_cons_zero, List.set_cons_succ]
                      refine yready_22 (by kernel_rfl) ?_
                      intro KQ hK
                      rw [if_pos (by rfl)]
                      go_simp
                      refine hK.out _ _ (box2 ((heap_setCell_other w7 ⟨g, 0, none⟩ gb _ hgbg).trans hbk7)) (fun _ => ?_)
                      clear hK KQ
                      try simp only [Act.put, List.setIfInBounds_toArray, List.set_cons_zero, List.set_cons_succ]
                      refine wpAnyH_done (by kernel_rfl) ?_ _
                      have hq7 := hto
                      obtain ⟨hto1, hto2⟩ := hq7
                      have HTO1 := Lib.hid hto1
                      have HTO2 := Lib.hid hto2
                      clear hto hto1 hto2 hrun hgx ho4 ho5 hbk2 hbk3 hbk4 hbk5 hbk6 hbk7 hbk7' hb3 hb4 hb5 hb6 k2 k3 k4 k5 k6 k7 f7 hz3 hz4 hz5 hz6 hz3'
                      go_wp2_with fail
                      go_roundw
                      case rel => exact ⟨k + 1, by go_num, by omega, HOKS.out, HTO1.out, HTO2.out⟩
                      case measure => simp [intOf]; omega
                    · intro KQ hK
                      rw [if_pos (by rfl)]
                      try go_simp
                      refine (bclone_any AF nF cF f.dat _ HNF.out (HRF.out.below hb3) (by omega)).mono ?_
                      rintro e w4 ⟨v4, rfl, ho4, hb4⟩
                      rw [u8s_length, HNF.out] at ho4
                      obtain ⟨A4, c4, rfl, _⟩ := own_val ho4
                      try go_simp
                      have hz4 := hb4.size
                      have hgl4 := Nat.lt_of_lt_of_le hgl3 hb4.size
                      have hgbd4 := Nat.lt_of_lt_of_le hgbd3 hb4.size
                      have k4 : w4.cell? ⟨g, 0, none⟩ = some (.slice AL k cL) := (hb4.cell (p := ⟨g, 0, none⟩) hgl3).trans k3
                      have hbk4 := (hb4.block gb hgbd3).trans hbk3
                      refine hK.out _ _ (box2 hbk4) (fun _ => ?_)
                      clear hK KQ
                      try simp only [Act.put, List.setIfInBounds_toArray, List.set_cons_zero, List.set_cons_succ]
                      refine yready_4_13 (by kernel_rfl) ?_ ?_
                      · intro KQ hK
                        rw [if_pos (by rfl)]
                        go_simp
                        refine hK.out _ _ (box2 hbk4) (fun _ => ?_)
                        clear hK KQ
                        try simp only [Act.put, List.setIfInBounds_toArray, List.set_cons_zero, List.set_cons_succ]
                        refine yready_13 (by kernel_rfl) ?_
                        intro KQ hK
                        rw [if_pos (by rfl)]
                        try go_simp
                        refine (bclone_any AF nF cF f.dat _ HNF.out ((HRF.out.below hb3).below hb4) (by omega)).mono ?_
                        rintro e w5 ⟨v5, rfl, ho5, hb5⟩
                        rw [u8s_length, HNF.out] at ho5
                        obtain ⟨A5, c5, rfl, _⟩ := own_val ho5
                        try go_simp
                        have hz5 := hb5.size
                        have hgl5 := Nat.lt_of_lt_of_le hgl4 hb5.size
                        have hgbd5 := Nat.lt_of_lt_of_le hgbd4 hb5.size
                        have k5 : w5.cell? ⟨g, 0, none⟩ = some (.slice AL k cL) := (hb5.cell (p := ⟨g, 0, none⟩) hgl4).trans k4
                        have hbk5 := (hb5.block gb hgbd4).trans hbk4
                        refine hK.out _ _ (box2 hbk5) (fun _ => ?_)
                        clear hK KQ
                        try simp only [Act.put, List.setIfInBounds_toArray, List.set_cons_zero, List.set_cons_succ]
                        refine ytake_17 (v := ?vv47) (by kernel_rfl) (by kernel_rfl) (by kernel_rfl) (fun _ _ _ h => h) (Or.inl ⟨by rfl, ?hy47⟩) (box2 hbk5) ?_
                        case hy47 =>
                          intro wX hSw
                          go_simp
                          try with_reducible rfl
                        try simp only [Act.put, List.setIfInBounds_toArray, List.set_cons_zero, List.set_cons_succ]
                        refine yready_18 (by kernel_rfl) ?_
                        intro KQ hK
                        rw [if_pos (by rfl)]
                        go_simp
                        obtain ⟨w6, hw6⟩ : ∃ w6, w6 = w5.alloc (.cells #[.string f.nm, .slice A4 nF c4, .slice A5 nF c5, .int .i64 nF] 82) := ⟨_, rfl⟩
                        have hb6 : Below w5.heap.size w5 w6 := by rw [hw6]; exact (Below.refl _ _).alloc (Nat.le_refl _) _
                        have hgx : w6.heap[w5.heap.size]? = some (.cells ([.string f.nm, .slice A4 nF c4, .slice A5 nF c5, .int .i64 nF] : List Value).toArray 82 (0, 0)) := by rw [hw6]; exact heap_alloc_new w5 _
                        rw [← hw6]
                        clear hw6
                        have hz6 := hb6.size
                        have hgl6 := Nat.lt_of_lt_of_le hgl5 hb6.size
                        have hgbd6 := Nat.lt_of_lt_of_le hgbd5 hb6.size
                        have k6 : w6.cell? ⟨g, 0, none⟩ = some (.slice AL k cL) := (hb6.cell (p := ⟨g, 0, none⟩) hgl5).trans k5
                        have hbk6 := (hb6.block gb hgbd5).trans hbk5
                        refine hK.out _ _ (box2 hbk6) (fun _ => ?_)
                        clear hK KQ
                        try simp only [Act.put, List.setIfInBounds_toArray, List.set_cons_zero, List.set_cons_succ]
                        have hz3' := hb3.size
                        have hall := new_file HDD.out HFF.out hb3 hb4 hb5 hb6 ho4 ho5 HNF.out HOKN.out HBF.out (by omega) hgx (by omega)
                        obtain ⟨A7, c7, w7, hrun, k7, f7, hbk7', hto⟩ := hall
                        have hbk7 := (hbk7' gb hgbd6 HGBN.out).trans hbk6
                        refine yready_19 (by kernel_rfl) ?_
                        intro KQ hK
                        rw [if_pos (by rfl)]
                        refine wp_call_run _ (.tmp 46) (.tmp 60) 74 74 rfl rfl rfl hrun ?_
                        refine hK.out _ _ (box2 hbk7) (fun _ => ?_)
                        clear hK KQ
                        try simp only [Act.put, List.setIfInBounds_toArray, List.set_cons_zero, List.set_cons_succ]
                        refine ytake_20 (v := ?vv48) (by kernel_rfl) (by kernel_rfl) (by kernel_rfl) (fun _ _ _ h => h) (Or.inl ⟨by rfl, ?hy48⟩) (box2 hbk7) ?_
                        case hy48 =>
                          intro wX hSw
                          go_simp
                          try with_reducible rfl
                        try simp only [Act.put, List.setIfInBounds_toArray, List.set_cons_zero, List.set_cons_succ]
                        refine ytake_21 (v := ?vv49) (by kernel_rfl) (by kernel_rfl) (by kernel_rfl) (fun _ _ _ h => h) (Or.inl ⟨by rfl, ?hy49⟩) (box2 hbk7) ?_
                        case hy49 =>
                          intro wX hSw
                          go_simp
                          try with_reducible rfl
                        try simp only [Act.put, List.setIfInBounds_toArray, List.set_cons_zero, List.set_cons_succ]
                        refine yready_22 (by kernel_rfl) ?_
                        intro KQ hK
                        rw [if_pos (by rfl)]
                        go_simp
                        refine hK.out _ _ (box2 ((heap_setCell_other w7 ⟨g, 0, none⟩ gb _ hgbg).trans hbk7)) (fun _ => ?_)
                        clear hK KQ
                        try simp only [Act.put, List.setIfInBounds_toArray, List.set_cons_zero, List.set_cons_succ]
                        refine wpAnyH_done (by kernel_rfl) ?_ _
                        have hq7 := hto
                        obtain ⟨hto1, hto2⟩ := hq7
                        have HTO1 := Lib.hid hto1
                        have HTO2 := Lib.hid hto2
                        clear hto hto1 hto2 hrun hgx ho4 ho5 hbk2 hbk3 hbk4 hbk5 hbk6 hbk7 hbk7' hb3 hb4 hb5 hb6 k2 k3 k4 k5 k6 k7 f7 hz3 hz4 hz5 hz6 hz3'
                        go_wp2_with fail
                        go_roundw
                        case rel => exact ⟨k + 1, by go_num, by omega, HOKS.out, HTO1.out, HTO2.out⟩
                        case measure => simp [intOf]; omega
                      · intro KQ hK
                        rw [if_pos (by rfl)]
                        try go_simp
                        refine (bclone_any AF nF cF f.dat _ HNF.out ((HRF.out.below hb3).below hb4) (by omega)).mono ?_
                        rintro e w5 ⟨v5, rfl, ho5, hb5⟩
                        rw [u8s_length, HNF.out] at ho5
                        obtain ⟨A5, c5, rfl, _⟩ := own_val ho5
                        try go_simp
                        have hz5 := hb5.size
                        have hgl5 := Nat.lt_of_lt_of_le hgl4 hb5.size
                        have hgbd5 := Nat.lt_of_lt_of_le hgbd4 hb5.size
                        have k5 : w5.cell? ⟨g, 0, none⟩ = some (.slice AL k cL) := (hb5.cell (p := ⟨g, 0, none⟩) hgl4).trans k4
                        have hbk5 := (hb5.block gb hgbd4).trans hbk4
                        refine hK.out _ _ (box2 hbk5) (fun _ => ?_)
                        clear hK KQ
                        try simp only [Act.put, List.setIfInBounds_toArray, List.set_cons_zero, List.set_cons_succ]
                        refine ytake_17 (v := ?vv50) (by kernel_rfl) (by kernel_rfl) (by kernel_rfl) (fun _ _ _ h => h) (Or.inl ⟨by rfl, ?hy50⟩) (box2 hbk5) ?_
                        case hy50 =>
                          intro wX hSw
                          go_simp
                          try with_reducible rfl
                        try simp only [Act.put, List.setIfInBounds_toArray, List.set_cons_zero, List.set_cons_succ]
                        refine yready_4_18 (by kernel_rfl) ?_ ?_
                        · intro KQ hK
                          rw [if_pos (by rfl)]
                          go_simp
                          refine hK.out _ _ (box2 hbk5) (fun _ => ?_)
                          clear hK KQ
                          try simp only [Act.put, List.setIfInBounds_toArray, List.set_cons_zero, List.set_cons_succ]
                          refine yready_18 (by kernel_rfl) ?_
                          intro KQ hK
                          rw [if_pos (by rfl)]
                          go_simp
                          obtain ⟨w6, hw6⟩ : ∃ w6, w6 = w5.alloc (.cells #[.string f.nm, .slice A4 nF c4, .slice A5 nF c5, .int .i64 nF] 82) := ⟨_, rfl⟩
                          have hb6 : Below w5.heap.size w5 w6 := by rw [hw6]; exact (Below.refl _ _).alloc (Nat.le_refl _) _
                          have hgx : w6.heap[w5.heap.size]? = some (.cells ([.string f.nm, .slice A4 nF c4, .slice A5 nF c5, .int .i64 nF] : List Value).toArray 82 (0, 0)) := by rw [hw6]; exact heap_alloc_new w5 _
                          rw [← hw6]
                          clear hw6
                          have hz6 := hb6.size
                          have hgl6 := Nat.lt_of_lt_of_le hgl5 hb6.size
                          have hgbd6 := Nat.lt_of_lt_of_le hgbd5 hb6.size
                          have k6 : w6.cell? ⟨g, 0, none⟩ = some (.slice AL k cL) := (hb6.cell (p := ⟨g, 0, none⟩) hgl5).trans k5
                          have hbk6 := (hb6.block gb hgbd5).trans hbk5
                          refine hK.out _ _ (box2 hbk6) (fun _ => ?_)
                          clear hK KQ
                          try simp only [Act.put, List.setIfInBounds_toArray, List.set_cons_zero, List.set_cons_succ]
                          have hz3' := hb3.size
                          have hall := new_file HDD.out HFF.out hb3 hb4 hb5 hb6 ho4 ho5 HNF.out HOKN.out HBF.out (by omega) hgx (by omega)
                          obtain ⟨A7, c7, w7, hrun, k7, f7, hbk7', hto⟩ := hall
                          have hbk7 := (hbk7' gb hgbd6 HGBN.out).trans hbk6
                          refine yready_19 (by kernel_rfl) ?_
                          intro KQ hK
                          rw [if_pos (by rfl)]
                          refine wp_call_run _ (.tmp 46) (.tmp 60) 74 74 rfl rfl rfl hrun ?_
                          refine hK.out _ _ (box2 hbk7) (fun _ => ?_)
                          clear hK KQ
                          try simp only [Act.put, List.setIfInBounds_toArray, List.set_cons_zero, List.set_cons_succ]
                          refine ytake_20 (v := ?vv51) (by kernel_rfl) (by kernel_rfl) (by kernel_rfl) (fun _ _ _ h => h) (Or.inl ⟨by rfl, ?hy51⟩) (box2 hbk7) ?_
                          case hy51 =>
                            intro wX hSw
                            go_simp
                            try with_reducible rfl
                          try simp only [Act.put, List.setIfInBounds_toArray, List.set_cons_zero, List.set_cons_succ]
                          refine ytake_21 (v := ?vv52) (by kernel_rfl) (by kernel_rfl) (by kernel_rfl) (fun _ _ _ h => h) (Or.inl ⟨by rfl, ?hy52⟩) (box2 hbk7) ?_
                          case hy52 =>
                            intro wX hSw
                            go_simp
                            try with_reducible rfl
                          try simp only [Act.put, List.setIfInBounds_toArray, List.set_cons_zero, List.set_cons_succ]
                          refine yready_22 (by kernel_rfl) ?_
                          intro KQ hK
                          rw [if_pos (by rfl)]
                          go_simp
                          refine hK.out _ _ (box2 ((heap_setCell_other w7 ⟨g, 0, none⟩ gb _ hgbg).trans hbk7)) (fun _ => ?_)
                          clear hK KQ
                          try simp only [Act.put, List.setIfInBounds_toArray, List.set_cons_zero, List.set_cons_succ]
                          refine wpAnyH_done (by kernel_rfl) ?_ _
                          have hq7 := hto
                          obtain ⟨hto1, hto2⟩ := hq7
                          have HTO1 := Lib.hid hto1
                          have HTO2 := Lib.hid hto2
                          clear hto hto1 hto2 hrun hgx ho4 ho5 hbk2 hbk3 hbk4 hbk5 hbk6 hbk7 hbk7' hb3 hb4 hb5 hb6 k2 k3 k4 k5 k6 k7 f7 hz3 hz4 hz5 hz6 hz3'
                          go_wp2_with fail
                          go_roundw
                          case rel => exact ⟨k + 1, by go_num, by omega, HOKS.out, HTO1.out, HTO2.out⟩
                          case measure => simp [intOf]; omega
                        · intro KQ hK
                          rw [if_pos (by rfl)]
                          go_simp
                          obtain ⟨w6, hw6⟩ : ∃ w6, w6 = w5.alloc (.cells #[.string f.nm, .slice A4 nF c4, .slice A5 nF c5, .int .i64 nF] 82) := ⟨_, rfl⟩
                          have hb6 : Below w5.heap.size w5 w6 := by rw [hw6]; exact (Below.refl _ _).alloc (Nat.le_refl _) _
                          have hgx : w6.heap[w5.heap.size]? = some (.cells ([.string f.nm, .slice A4 nF c4, .slice A5 nF c5, .int .i64 nF] : List Value).toArray 82 (0, 0)) := by rw [hw6]; exact heap_alloc_new w5 _
                          rw [← hw6]
                          clear hw6
                          have hz6 := hb6.size
                          have hgl6 := Nat.lt_of_lt_of_le hgl5 hb6.size
                          have hgbd6 := Nat.lt_of_lt_of_le hgbd5 hb6.size
                          have k6 : w6.cell? ⟨g, 0, none⟩ = some (.slice AL k cL) := (hb6.cell (p := ⟨g, 0, none⟩) hgl5).trans k5
                          have hbk6 := (hb6.block gb hgbd5).trans hbk5
                          refine hK.out _ _ (box2 hbk6) (fun _ => ?_)
                          clear hK KQ
                          try simp only [Act.put, List.setIfInBounds_toArray, List.set_cons_zero, List.set_cons_succ]
                          refine yready_4 (by kernel_rfl) ?_
                          intro KQ hK
                          rw [if_pos (by rfl)]
                          go_simp
                          refine hK.out _ _ (box2 hbk6) (fun _ => ?_)
                          clear hK KQ
                          try simp only [Act.put, List.setIfInBounds_toArray, List.set_cons_zero, List.set_cons_succ]
                          have hz3' := hb3.size
                          have hall := new_file HDD.out HFF.out hb3 hb4 hb5 hb6 ho4 ho5 HNF.out HOKN.out HBF.out (by omega) hgx (by omega)
                          obtain ⟨A7, c7, w7, hrun, k7, f7, hbk7', hto⟩ := hall
                          have hbk7 := (hbk7' gb hgbd6 HGBN.out).trans hbk6
                          refine yready_19 (by kernel_rfl) ?_
                          intro KQ hK
                          rw [if_pos (by rfl)]
                          refine wp_call_run _ (.tmp 46) (.tmp 60) 74 74 rfl rfl rfl hrun ?_
                          refine hK.out _ _ (box2 hbk7) (fun _ => ?_)
                          clear hK KQ
                          try simp only [Act.put, List.setIfInBounds_toArray, List.set_cons_zero, List.set_cons_succ]
                          refine ytake_20 (v := ?vv53) (by kernel_rfl) (by kernel_rfl) (by kernel_rfl) (fun _ _ _ h => h) (Or.inl ⟨by rfl, ?hy53⟩) (box2 hbk7) ?_
                          case hy53 =>
                            intro wX hSw
                            go_simp
                            try with_reducible rfl
                          try simp only [Act.put, List.setIfInBounds_toArray, List.set_cons_zero, List.set_cons_succ]
                          refine ytake_21 (v := ?vv54) (by kernel_rfl) (by kernel_rfl) (by kernel_rfl) (fun _ _ _ h => h) (Or.inl ⟨by rfl, ?hy54⟩) (box2 hbk7) ?_
                          case hy54 =>
                            intro wX hSw
                            go_simp
                            try with_reducible rfl
                          try simp only [Act.put, List.setIfInBounds_toArray, List.set_cons_zero, List.set_cons_succ]
                          refine yready_22 (by kernel_rfl) ?_
                          intro KQ hK
                          rw [if_pos (by rfl)]
                          go_simp
                          refine hK.out _ _ (box2 ((heap_setCell_other w7 ⟨g, 0, none⟩ gb _ hgbg).trans hbk7)) (fun _ => ?_)
                          clear hK KQ
                          try simp only [Act.put, List.setIfInBounds_toArray, List.set_cons_zero, List.set_cons_succ]
                          refine wpAnyH_done (by kernel_rfl) ?_ _
                          have hq7 := hto
                          obtain ⟨hto1, hto2⟩ := hq7
                          have HTO1 := Lib.hid hto1
                          have HTO2 := Lib.hid hto2
                          clear hto hto1 hto2 hrun hgx ho4 ho5 hbk2 hbk3 hbk4 hbk5 hbk6 hbk7 hbk7' hb3 hb4 hb5 hb6 k2 k3 k4 k5 k6 k7 f7 hz3 hz4 hz5 hz6 hz3'
                          go_wp2_with fail
                          go_roundw
                          case rel => exact ⟨k + 1, by go_num, by omega, HOKS.out, HTO1.out, HTO2.out⟩
                          case measure => simp [intOf]; omega
        · have i1 : ¬ ((k : Int) < (n : Int)) := by omega
          obtain rfl : k = n := by omega
          go_wp2_with fail
          simp only [Exit.jump]
          go_ret2
          have hm : mayB fs = true := mayB_yes (by rw [HFL.out]; omega) (fun i hi => HOK.out i (by rw [HFL.out] at hi; exact hi))
          have h1 := HND.out
          exact newTo_yes hm (by rw [HFL.out]; exact h1) HBW.out
  · refine NewJ_elim ?_
    intro u0 u1 u2 u3 u4 u5 u6 u7 u8 u9 u10 u11 u12 u13 u14 u15 u16 u17 u18 u19 u20 u21 u22 u23 u24 u25 u26 u27 u28 u29 u30 u31 u32 u33 u34 u35 u36 u37 u38 u39 u40 u41 u42 u43 u44 u45 u46 u47 u48 u49 u50 u51 u52 u53 u54 u55 u56 u57 u58 u59 u60 u61 u62 u63 u64 u65 w' hno hb
    have HNO := Lib.hid hno
    clear hno
    go_wp2_with fail
    simp only [Exit.jump]
    go_ret2
    exact newTo_no HNO.out hb

end Go.Proofs.Ytaccmjgnggepjaa
