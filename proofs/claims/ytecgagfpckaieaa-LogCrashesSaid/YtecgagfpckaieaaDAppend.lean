/-
  Package disk: Append.
-/
import Derived.Test.YtecgagfpckaieaaDPut
namespace Go.Proofs.Ytecgagfpckaieaa
open Go.RowKit

def PD.lenAt (D : PD) (s : ByteArray) : Nat := ((D.fileAt s).map fun f => f.vis.length).getD 0
def dAppend (D : PD) (s : ByteArray) (b : List Int) : PD × Int :=
  if okName s = false then (D, 1) else if D.tick.off = true then (D.tick, 9) else if 1048576 < b.length + D.lenAt s then (D.tick, 2) else match D.fileAt s with
    | some f => (D.with (D.L.set (D.pos s) { f with vis := f.vis ++ b }), 0)
    | none => if D.L.length = 16 then (D.tick, 8) else (D.with (D.L.take (D.pos s) ++ ⟨s, b, []⟩ :: D.L.drop (D.pos s)), 0)

/-- bytes that are handed in -/
structure GivB (w : World) (F : Nat → Prop) (A : Option Addr) (n c : Nat) (zs : List Int) : Prop where
  hz : zs.length = n
  rd : Rd w A (u8s zs)
  byt : Byts zs
  hc : n ≤ c
  hm : c ≤ maxLen
  few : n ≤ 1000000
  far : ∀ a, A = some a → 0 < n → ¬ F a.block
theorem GivB.touch {w w' : World} {F F' : Nat → Prop} {A : Option Addr} {n c : Nat} {zs : List Int} (h : GivB w F A n c zs) (ht : Touch F w w') (hF : ∀ k, F' k → F k ∨ w.heap.size ≤ k) : GivB w' F' A n c zs where
  hz := h.hz
  rd := by
    rcases Nat.eq_zero_or_pos n with h0 | h0
    · have : zs = [] := List.eq_nil_of_length_eq_zero (by rw [h.hz]; exact h0)
      subst this
      exact Rd.nil _ _
    · exact h.rd.kept ht.size fun a ha hl => ht.block _ hl (h.far a ha h0)
  byt := h.byt
  hc := h.hc
  hm := h.hm
  few := h.few
  far := fun a ha h0 hf => by
    obtain ⟨b, off, e, hb, _⟩ := h.rd.open_ (by rw [u8s_length, h.hz]; exact h0)
    rw [e] at ha
    cases ha
    rcases hF _ hf with h' | h'
    · exact h.far _ e h0 h'
    · exact absurd hb (by show ¬ b < _; exact Nat.not_lt.2 h')

theorem emptyFile (w : World) (s : ByteArray) (h : okName s = true) : FileIn w ⟨s, [], [], .slice none 0 0, .slice none 0 0, 0⟩ where
  rV := World.ownsRow_nil _ _ _ _
  rD := World.ownsRow_nil _ _ _ _
  s1 := Nat.le_refl _
  s2 := Nat.le_refl _
  s3 := rfl
  b1 := Byts.nil
  b2 := Byts.nil
  z1 := by show 0 ≤ _; omega
  z2 := by show 0 ≤ _; omega
  ok := h

/-- behind the append to what is seen of a file -/
theorem app_done {w1 : World} {g : Nat} {F : Nat → Prop} {T : PD} {l : Int} {ms : List MF} {m : MF} {p gr nL cap nV : Nat} {A : Option Addr} {nb cb : Nat} {zs : List Int} (h : DiskIn w1 g F T (.slice (some ⟨gr, 0, none⟩) nL cap) l ms) (hm : ms[p]? = some m) (hnV : m.vis.length = nV) (hnb : ∀ m ∈ ms, gr ∉ m.blks) (hG : GivB w1 F A nb cb zs) (hfit : nb + nV ≤ 1048576) :
    ∃ AV cV A2 c2 w2, m.vV = .slice AV nV cV ∧ nV ≤ cV ∧ cV ≤ maxLen ∧ (Builtin.append_ #[50, 50] 50 #[.slice AV nV cV, .slice A nb cb]).run Try.prog w1 = .ok (.slice A2 (nV + nb) c2) w2 ∧
      AtFile w2 gr p m ∧ (∀ o, w2.frozen? ⟨gr, o, none⟩ = false) ∧
      ∀ T' : PD, T'.L = (ms.map MF.pf).set p { m.pf with vis := m.vis ++ zs } → T'.calls = T.calls → T'.left = T.left → T'.off = T.off → DiskTo g F T' w1 (w2.setCell ⟨gr, p * 4 + 1, none⟩ (.slice A2 (nV + nb) c2)) := by
  have hmem : m ∈ ms := List.mem_of_getElem? hm
  have hf := h.els m hmem
  obtain ⟨AV, cV, hvV, hcV, hmV, _⟩ := rd_own hf.rV
  rw [hnV] at hvV hcV
  have hrV : w1.ownsRow 0 5 1 (.slice AV nV cV) nV (u8s m.vis) := by have := hf.rV; rwa [hvV, hnV] at this
  have hz1 := hf.z1
  have hfew := hG.few
  obtain ⟨A2, c2, w2, hrun, hown, hg, hloc⟩ := run_app_loc (P := Try.prog) w1 50 50 0 5 (.int .u8 0) 1 Try.underlying50 info_u8 rfl (by decide) (.slice AV nV cV) nV _ hrV A nb cb (u8s zs) (by rw [u8s_length, hG.hz]) hG.rd (u8s_one _) (by omega) (by omega)
  rw [← hvV] at hg hloc
  have hgr : gr < w1.heap.size := h.lt _ (h.rowF rfl)
  have hbm := hnb m hmem
  have hgrne : m.vV.ownBlock ≠ some gr := fun e => hbm (by simp [MF.blks, e])
  have hgb : w2.heap[gr]? = w1.heap[gr]? := hg.block gr hgr (fun e => hgrne e.symm)
  have hkf := h.file rfl hm
  have hnd := blks_nd h.ndF hmem
  have hn : nL = ms.length := by
    rcases h.row.2 with ⟨hv, _⟩ | ⟨_, _, _, hv, _⟩
    · cases hv
    · cases hv; rfl
  have hrow : w2.ownsRow 0 80 4 (.slice (some ⟨gr, 0, none⟩) nL cap) nL (cellsD ms) := by
    have hr := h.row
    rw [← hn] at hr
    exact own_kept hr fun k hk _ => by cases hk; exact hgb
  refine ⟨AV, cV, A2, c2, w2, hvV, hcV, hmV, hrun, ⟨(World.cell?_of_block (a := ⟨gr, p * 4, none⟩) hgb).trans hkf.a0, (World.cell?_of_block (a := ⟨gr, p * 4 + 1, none⟩) hgb).trans hkf.a1, (World.cell?_of_block (a := ⟨gr, p * 4 + 2, none⟩) hgb).trans hkf.a2, (World.cell?_of_block (a := ⟨gr, p * 4 + 3, none⟩) hgb).trans hkf.a3⟩, fun o => (World.frozen?_of_block (a := ⟨gr, o, none⟩) hgb).trans (h.rowfz rfl o), ?_⟩
  intro T' hL hc hl ho
  obtain ⟨w4, hw4⟩ : ∃ w4, w4 = w2.setCell ⟨gr, p * 4 + 1, none⟩ (.slice A2 (nV + nb) c2) := ⟨_, rfl⟩
  have s2 := (hrow.stored (p * 4 + 1) (.slice A2 (nV + nb) c2)).1
  have hset : (cellsD ms).set (p * 4 + 1) (.slice A2 (nV + nb) c2) = cellsD (ms.set p { m with vis := m.vis ++ zs, vV := .slice A2 (nV + nb) c2 }) := by
    rw [← cellsD_set_at hm { m with vis := m.vis ++ zs, vV := .slice A2 (nV + nb) c2 } rfl]
    rw [set_same (i := p * 4 + 2) (by rw [List.getElem?_set_ne (by omega)]; exact cellsD_at hm (j := 2) rfl), set_same (i := p * 4 + 3) (by rw [List.getElem?_set_ne (by omega)]; exact cellsD_at hm (j := 3) rfl)]
  rw [hset, ← hw4] at s2
  rw [← hw4]
  have hset4 : ∀ k, k ≠ gr → w4.heap[k]? = w2.heap[k]? := fun k hk => by
    rw [hw4, heap_setCell_other _ ⟨gr, p * 4 + 1, none⟩ k _ hk]
  have ht : Touch (fun k => k = gr ∨ k ∈ m.blks) w1 w4 := by
    rw [hw4]
    exact (Touch.grown (F := fun k => k = gr ∨ k ∈ m.blks) hg fun k hk => .inr (by simp [MF.blks, hk])).set (.inl (.inl rfl)) _
  have hAg : (Value.slice A2 (nV + nb) c2).ownBlock ≠ some gr := by
    rcases hloc with e | e <;> rw [e]
    · exact hgrne
    · intro e'; cases e'; omega
  have hdis : ∀ k, m.vV.ownBlock = some k → m.dV.ownBlock ≠ some k := by
    intro k hk hk'
    simp only [MF.blks, hk, hk', Option.toList_some, List.nodup_append, List.mem_singleton] at hnd
    exact hnd.2.2 k rfl k rfl rfl
  have hdlt : ∀ k, m.dV.ownBlock = some k → k < w1.heap.size := fun k hk => (own_lt hf.rD hk).1
  have hkD : ∀ k, m.dV.ownBlock = some k → w4.heap[k]? = w1.heap[k]? := fun k hk => by
    have hkg : k ≠ gr := fun e => hbm (by rw [← e]; simp [MF.blks, hk])
    rw [hset4 k hkg]
    exact hg.block k (hdlt k hk) (fun e => hdis k e.symm hk)
  have hs1 := hf.s1
  rw [hnV] at hs1
  refine h.fileTo (T' := T') hm (m' := { m with vis := m.vis ++ zs, vV := .slice A2 (nV + nb) c2 }) rfl ht s2 ?_ ?_ ?_ hL hc hl ho
  · exact
      { rV := by
          show w4.ownsRow 0 5 1 (.slice A2 (nV + nb) c2) (m.vis ++ zs).length (u8s (m.vis ++ zs))
          rw [List.length_append, hnV, hG.hz, u8s_append]
          exact own_kept hown fun k hk _ => hset4 k (fun e => hAg (by rw [hk, e]))
        rD := own_kept hf.rD fun k hk _ => hkD k hk
        s1 := by show m.same ≤ (m.vis ++ zs).length; rw [List.length_append, hnV]; omega
        s2 := hf.s2
        s3 := by
          show (m.vis ++ zs).take m.same = m.dur.take m.same
          rw [List.take_append_of_le_length (by rw [hnV]; exact hs1)]
          exact hf.s3
        b1 := hf.b1.append hG.byt
        b2 := hf.b2
        z1 := by show (m.vis ++ zs).length ≤ 1048576; rw [List.length_append, hnV, hG.hz]; omega
        z2 := hf.z2
        ok := hf.ok }
  · intro k hk
    simp only [MF.blks, List.mem_append, Option.mem_toList] at hk ⊢
    rcases hk with hk | hk
    · rcases hloc with e | e
      · exact .inl (.inl (by rw [← e]; exact hk))
      · rw [e] at hk; cases hk; exact .inr (Nat.le_refl _)
    · exact .inl (.inr hk)
  · show ((Value.slice A2 (nV + nb) c2).ownBlock.toList ++ m.dV.ownBlock.toList).Nodup
    rcases hloc with e | e
    · rw [e]; exact hnd
    · rw [e]
      simp only [List.nodup_append, Option.toList_some, List.mem_singleton, Option.mem_toList]
      refine ⟨by simp, by cases m.dV.ownBlock <;> simp, ?_⟩
      rintro a rfl b hb rfl
      exact absurd (hdlt _ hb) (by omega)

set_option maxRecDepth 100000 in
set_option maxHeartbeats 8000000 in
theorem append_is {F : Nat → Prop} {D : PD} (g : Nat) (s : ByteArray) (A : Option Addr) (nb cb : Nat) (zs : List Int) (w : World) (h : IsDisk w g F D) (hs : s.size ≤ maxLen) (hc : D.calls ≤ 1000000) (hG : GivB w F A nb cb zs) :
    Calls Try.prog 35 #[.pointer (some ⟨g, 0, none⟩), .string s, .slice A nb cb] w fun e w' => e = .returned (.int .i64 (dAppend D s zs).2) ∧ DiskTo g F (dAppend D s zs).1 w w' := by
  obtain ⟨vL, l, ms, h⟩ := h
  have HD := Lib.hid h
  have HG := Lib.hid hG
  have hfb := hG.few
  have hzb := hG.hz
  cases hn : okName s with
  | false =>
    have hr : dAppend D s zs = (D, 1) := by rw [dAppend, if_pos hn]
    rw [hr]
    clear hr h hG hzb
    go_enter Try.func35, Try.ntmps35
    go_wp2_with (go_at_call 47; refine (begin_no _ _ _ hs hn).mono ?_; rintro e w' ⟨rfl, rfl⟩)
    go_ret
    exact ⟨rfl, DiskTo.same ⟨_, _, _, HD.out⟩⟩
  | true =>
    cases hoff : D.tick.off with
    | true =>
      have hr : dAppend D s zs = (D.tick, 9) := by rw [dAppend, if_neg (by rw [hn]; decide), if_pos hoff]
      rw [hr]
      clear hr h hG hzb
      go_enter Try.func35, Try.ntmps35
      go_wp2_with (go_at_call 47; refine (begin_yes true _ _ _ HD.out hs hn hc hoff).mono ?_; rintro e w' ⟨rfl, hto⟩)
      go_ret
      exact ⟨rfl, hto.done HD.out.here⟩
    | false =>
      have hda : dAppend D s zs = if 1048576 < zs.length + D.lenAt s then (D.tick, (2 : Int)) else match D.fileAt s with
          | some f => (D.with (D.L.set (D.pos s) { f with vis := f.vis ++ zs }), 0)
          | none => if D.L.length = 16 then (D.tick, 8) else (D.with (D.L.take (D.pos s) ++ ⟨s, zs, []⟩ :: D.L.drop (D.pos s)), 0) := by
        rw [dAppend, if_neg (by rw [hn]; decide), if_neg (by rw [hoff]; decide)]
      cases hh : D.has s with
      | true =>
        obtain ⟨m, hm, hmn, hvis, hpl⟩ := h.there hh
        have hfa := h.fileAt hh hm
        have hfew := h.few
        obtain ⟨p, hp⟩ : ∃ p, D.pos s = p := ⟨_, rfl⟩
        rw [hp] at hm hpl
        obtain ⟨gr, cap, hvL, hnc, hcm, hne, hF, hnb⟩ := h.rowAt (by omega)
        have hmem : m ∈ ms := List.mem_of_getElem? hm
        obtain ⟨nL, hnL⟩ : ∃ nL, ms.length = nL := ⟨_, rfl⟩
        rw [hnL] at hvL hnc hpl hfew
        obtain ⟨nV, hnV⟩ : ∃ nV, m.vis.length = nV := ⟨_, rfl⟩
        have hz1 := (h.els m hmem).z1
        rw [hnV] at hz1
        have hla : D.lenAt s = nV := by rw [PD.lenAt, hfa]; exact hnV
        rw [hla, hzb] at hda
        have HNL := Lib.hid hnL
        have HNV := Lib.hid hnV
        have HM := Lib.hid hm
        have HMM := Lib.hid hmem
        have HP := Lib.hid hp
        have HH := Lib.hid hh
        have HFA := Lib.hid hfa
        have HDA := Lib.hid hda
        have HBL := Lib.hid hnb
        have HVL := Lib.hid hvL
        subst hvL
        clear h hfa hvis hm hmem hmn hp hh hnb hnV hnL hla hda hG hzb
        have i0 : (0 : Int) ≤ (p : Int) := by omega
        have i1 : (p : Int) < (nL : Int) := by omega
        by_cases hbig : 1048576 < nb + nV
        · have hr : dAppend D s zs = (D.tick, 2) := by rw [HDA.out, if_pos hbig]
          rw [hr]
          clear hr
          have i2 : (1048576 : Int) < (nb : Int) + (nV : Int) := by omega
          go_enter Try.func35, Try.ntmps35
          go_wp2_with fail
          refine (begin_yes false _ _ _ HD.out hs hn hc hoff).mono ?_
          rintro e w1 ⟨rfl, hto⟩
          have HTO := Lib.hid hto
          obtain ⟨l1, hd1, _⟩ := hto
          go_wp2_with fail
          refine (find_any g s _ hd1).mono ?_
          rintro e w2 ⟨he, hb2⟩
          rw [tick_pos, tick_has, HH.out, HP.out] at he
          subst he
          have hd2 := hd1.below hb2
          have k0 := hd2.c0
          have k1 := (hd2.file rfl HM.out).a1
          obtain ⟨AV, cV, hvV, hcV, hmV, _⟩ := rd_own (hd2.els m HMM.out).rV
          rw [HNV.out] at hvV
          rw [hvV] at k1
          clear hvV hd1 hd2
          go_wp2_with fail
          go_ret
          exact ⟨rfl, (HTO.out.below hb2).done HD.out.here⟩
        · have hr : dAppend D s zs = (D.with (D.L.set p { m.pf with vis := m.vis ++ zs }), 0) := by rw [HDA.out, if_neg hbig, HFA.out, HP.out]; rfl
          rw [hr]
          clear hr
          have i2 : ¬ ((1048576 : Int) < (nb : Int) + (nV : Int)) := by omega
          go_enter Try.func35, Try.ntmps35
          go_wp2_with fail
          refine (begin_yes false _ _ _ HD.out hs hn hc hoff).mono ?_
          rintro e w1 ⟨rfl, hto⟩
          have HTO := Lib.hid hto
          obtain ⟨l1, hd1, _⟩ := hto
          go_wp2_with fail
          refine (find_any g s _ hd1).mono ?_
          rintro e w2 ⟨he, hb2⟩
          rw [tick_pos, tick_has, HH.out, HP.out] at he
          subst he
          have hd2 := hd1.below hb2
          have HT2 := Lib.hid ((HTO.out.below hb2).touch HD.out.here)
          have hG2 := HG.out.touch HT2.out (fun k hk => .inl hk)
          have k0 := hd2.c0
          have kf := hd2.file rfl HM.out
          have k1 := kf.a1
          obtain ⟨AV, cV, A2, c2, w3, hvV, hcV, hmV, hrun, hat, hfz, hfin⟩ := app_done hd2 HM.out HNV.out HBL.out hG2 (by omega)
          rw [hvV] at k1
          have g1 := hat.a1
          rw [hvV] at g1
          have f1 := hfz (p * 4 + 1)
          have HR := Lib.hid hrun
          have HFIN := Lib.hid hfin
          clear hvV hd1 hd2 hrun hfin kf hG2
          unfold maxLen at hmV
          go_wp2_with (at_builtin; refine wpList_app_run _ rfl (.tmp 71) (.tmp 72) 50 50 rfl rfl rfl HR.out ?_)
          go_ret
          exact ⟨rfl, DiskTo.behind HT2.out (HFIN.out _ (by show D.L.set p _ = _; rw [HD.out.eqL]) rfl rfl rfl)⟩
      | false =>
        have hfa : D.fileAt s = none := by rw [PD.fileAt, if_neg (by rw [hh]; decide)]
        have hla : D.lenAt s = 0 := by rw [PD.lenAt, hfa]; rfl
        rw [hla, hzb, if_neg (by omega), hfa] at hda
        obtain ⟨AL, cL, hvL, hnc, hcm, _⟩ := h.slice rfl
        have hfew := h.few
        have hlen := h.lenL
        have hrise := h.rise
        obtain ⟨p, hp⟩ : ∃ p, D.pos s = p := ⟨_, rfl⟩
        have hpl : p ≤ ms.length := by rw [← hp, PD.pos, h.nmL]; have := posN_le (ms.map MF.nm) s; simpa using this
        obtain ⟨nL, hnL⟩ : ∃ nL, ms.length = nL := ⟨_, rfl⟩
        rw [hnL] at hvL hnc hpl hfew hlen
        have HNL := Lib.hid hnL
        have HP := Lib.hid hp
        have HH := Lib.hid hh
        have HDA := Lib.hid hda
        have HLEN := Lib.hid hlen
        have HRI := Lib.hid hrise
        subst hvL
        clear h hfa hla hp hh hda hG hzb hnL hlen hrise
        have i2 : ¬ ((1048576 : Int) < (nb : Int)) := by omega
        have i4 : ¬ ((1048576 : Int) < (nb : Int) + 0) := by omega
        by_cases hfull : nL = 16
        · have hr : dAppend D s zs = (D.tick, 8) := by rw [HDA.out]; exact if_pos (by rw [HLEN.out]; exact hfull)
          rw [hr]
          clear hr
          have i3 : (nL : Int) = 16 := by omega
          go_enter Try.func35, Try.ntmps35
          go_wp2_with fail
          refine (begin_yes false _ _ _ HD.out hs hn hc hoff).mono ?_
          rintro e w1 ⟨rfl, hto⟩
          have HTO := Lib.hid hto
          obtain ⟨l1, hd1, _⟩ := hto
          go_wp2_with fail
          refine (find_any g s _ hd1).mono ?_
          rintro e w2 ⟨he, hb2⟩
          rw [tick_pos, tick_has, HH.out, HP.out] at he
          subst he
          have hd2 := hd1.below hb2
          have k0 := hd2.c0
          clear hd1 hd2
          go_wp2_with fail
          go_ret
          exact ⟨rfl, (HTO.out.below hb2).done HD.out.here⟩
        · have hr : dAppend D s zs = (D.with (D.L.take p ++ ⟨s, zs, []⟩ :: D.L.drop p), 0) := by rw [HDA.out, HP.out]; exact if_neg (by rw [HLEN.out]; exact hfull)
          rw [hr]
          clear hr
          have i3 : ¬ ((nL : Int) = 16) := by omega
          have hsz := okName_size hn
          go_enter Try.func35, Try.ntmps35
          go_wp2_with fail
          refine (begin_yes false _ _ _ HD.out hs hn hc hoff).mono ?_
          rintro e w1 ⟨rfl, hto⟩
          have HTO := Lib.hid hto
          obtain ⟨l1, hd1, _⟩ := hto
          go_wp2_with fail
          refine (find_any g s _ hd1).mono ?_
          rintro e w2 ⟨he, hb2⟩
          rw [tick_pos, tick_has, HH.out, HP.out] at he
          subst he
          have hd2 := hd1.below hb2
          have HD2 := Lib.hid hd2
          have HT2 := Lib.hid ((HTO.out.below hb2).touch HD.out.here)
          have k0 := hd2.c0
          clear hd1 hd2
          go_wp2_with fail
          have hn15 : nL ≤ 15 := by omega
          clear i2 i3 i4 hfull
          refine wp_region_held_drew (S := fun _ => True) (by kernel_rfl) trivial (fun _ => ?_)
          refine ytake_0 (v := ?vv1) (by kernel_rfl) (by kernel_rfl) (by kernel_rfl) (fun _ _ _ h => h) (Or.inl ⟨by rfl, ?hy1⟩) trivial ?_
          case hy1 =>
            intro wX hSw
            go_simp
            try with_reducible rfl
          try simp only [Act.put, List.setIfInBounds_toArray, List.set_cons_zero, List.set_cons_succ]
          refine ytake_1 (v := ?vv2) (by kernel_rfl) (by kernel_rfl) (by kernel_rfl) (fun _ _ _ h => h) (Or.inl ⟨by rfl, ?hy2⟩) trivial ?_
          case hy2 =>
            intro wX hSw
            go_simp
            try with_reducible rfl
          try simp only [Act.put, List.setIfInBounds_toArray, List.set_cons_zero, List.set_cons_succ]
          refine ytake_2 (v := ?vv3) (by kernel_rfl) (by kernel_rfl) (by kernel_rfl) (fun _ _ _ h => h) (Or.inl ⟨by rfl, ?hy3⟩) trivial ?_
          case hy3 =>
            intro wX hSw
            go_simp
            try with_reducible rfl
          try simp only [Act.put, List.setIfInBounds_toArray, List.set_cons_zero, List.set_cons_succ]
          refine ytake_3 (v := ?vv4) (by kernel_rfl) (by kernel_rfl) (by kernel_rfl) (fun _ _ _ h => h) (Or.inl ⟨by rfl, ?hy4⟩) trivial ?_
          case hy4 =>
            intro wX hSw
            go_simp
            try with_reducible rfl
          try simp only [Act.put, List.setIfInBounds_toArray, List.set_cons_zero, List.set_cons_succ]
          refine ytake_5 (v := ?vv5) (by kernel_rfl) (by kernel_rfl) (by kernel_rfl) (fun _ _ _ h => h) (Or.inl ⟨by rfl, ?hy5⟩) trivial ?_
          case hy5 =>
            intro wX hSw
            go_simp
            try with_reducible rfl
          try simp only [Act.put, List.setIfInBounds_toArray, List.set_cons_zero, List.set_cons_succ]
          refine ytake_6 (v := ?vv6) (by kernel_rfl) (by kernel_rfl) (by kernel_rfl) (fun _ _ _ h => h) (Or.inl ⟨by rfl, ?hy6⟩) trivial ?_
          case hy6 =>
            intro wX hSw
            go_simp
            try with_reducible rfl
          try simp only [Act.put, List.setIfInBounds_toArray, List.set_cons_zero, List.set_cons_succ]
          refine yready_4_7 (by kernel_rfl) ?_ ?_
          · intro KQ hK
            rw [if_pos (by rfl)]
            go_simp
            refine hK.out _ _ trivial (fun _ => ?_)
            clear hK KQ
            try simp only [Act.put, List.setIfInBounds_toArray, List.set_cons_zero, List.set_cons_succ]
            refine yready_7 (by kernel_rfl) ?_
            intro KQ hK
            rw [if_pos (by rfl)]
            try go_simp
            refine (clone_any s _ (by omega)).mono ?_
            rintro e w3 ⟨rfl, hb3⟩
            replace hb3 : Below w2.heap.size w2 w3 := ((Below.refl _ _).drew).trans hb3
            try go_simp
            refine hK.out _ _ trivial (fun _ => ?_)
            clear hK KQ
            try simp only [Act.put, List.setIfInBounds_toArray, List.set_cons_zero, List.set_cons_succ]
            have k3 : w3.cell? ⟨g, 0, none⟩ = some (.slice AL nL cL) := (hb3.cell (p := ⟨g, 0, none⟩) (HD2.out.lt _ HD2.out.here)).trans k0
            refine ytake_8 (v := ?vv9) (by kernel_rfl) (by kernel_rfl) (by kernel_rfl) (fun _ _ _ h => h) (Or.inl ⟨by rfl, ?hy9⟩) trivial ?_
            case hy9 =>
              intro wX hSw
              go_simp
              try with_reducible rfl
            try simp only [Act.put, List.setIfInBounds_toArray, List.set_cons_zero, List.set_cons_succ]
            refine yready_9 (by kernel_rfl) ?_
            intro KQ hK
            rw [if_pos (by rfl)]
            go_simp
            refine hK.out _ _ trivial (fun _ => ?_)
            clear hK KQ
            try simp only [Act.put, List.setIfInBounds_toArray, List.set_cons_zero, List.set_cons_succ]
            obtain ⟨w4, hw4⟩ : ∃ w4, w4 = w3.alloc (.cells #[.string s, .slice none 0 0, .slice none 0 0, .int .i64 0] 80) := ⟨_, rfl⟩
            have hb4 : Below w3.heap.size w3 w4 := by rw [hw4]; exact (Below.refl _ _).alloc (Nat.le_refl _) _
            have hgx : w4.heap[w3.heap.size]? = some (.cells ([.string s, .slice none 0 0, .slice none 0 0, .int .i64 0] : List Value).toArray 80 (0, 0)) := by rw [hw4]; exact heap_alloc_new w3 _
            rw [← hw4]
            clear hw4
            have k4 : w4.cell? ⟨g, 0, none⟩ = some (.slice AL nL cL) := (hb4.cell (p := ⟨g, 0, none⟩) (Nat.lt_of_lt_of_le (HD2.out.lt _ HD2.out.here) hb3.size)).trans k3
            have hd4 := HD2.out.below (hb3.trans (hb4.mono hb3.size))
            have hgF : ¬ F w3.heap.size := fun hf => absurd (HD2.out.lt _ hf) (Nat.not_lt.2 hb3.size)
            have hins := ins_file (m := ⟨s, [], [], .slice none 0 0, .slice none 0 0, 0⟩) hd4 (by rw [HNL.out]; omega) (emptyFile w4 s hn) (fun k hk => by simp [MF.blks, Value.ownBlock] at hk) (by simpa [MF.blks, Value.ownBlock] using hd4.ndF) (by rw [tick_has]; exact HH.out) hgx hgF
            rw [tick_pos, HP.out] at hins
            have HB4 := Lib.hid (hb3.trans (hb4.mono hb3.size))
            clear hd4 hgF hgx hb3 hb4
            refine yready_10 (by kernel_rfl) ?_
            intro KQ hK
            rw [if_pos (by rfl)]
            try go_simp
            refine hins.mono ?_
            rintro e w5 ⟨A5, c5, rfl, k5, f5, hto5⟩
            try go_simp
            refine hK.out _ _ trivial (fun _ => ?_)
            clear hK KQ
            try simp only [Act.put, List.setIfInBounds_toArray, List.set_cons_zero, List.set_cons_succ]
            refine ytake_11 (v := ?vv7) (by kernel_rfl) (by kernel_rfl) (by kernel_rfl) (fun _ _ _ h => h) (Or.inl ⟨by rfl, ?hy7⟩) trivial ?_
            case hy7 =>
              intro wX hSw
              go_simp
              try with_reducible rfl
            try simp only [Act.put, List.setIfInBounds_toArray, List.set_cons_zero, List.set_cons_succ]
            refine ytake_12 (v := ?vv8) (by kernel_rfl) (by kernel_rfl) (by kernel_rfl) (fun _ _ _ h => h) (Or.inl ⟨by rfl, ?hy8⟩) trivial ?_
            case hy8 =>
              intro wX hSw
              go_simp
              try with_reducible rfl
            try simp only [Act.put, List.setIfInBounds_toArray, List.set_cons_zero, List.set_cons_succ]
            refine yready_13 (by kernel_rfl) ?_
            intro KQ hK
            rw [if_pos (by rfl)]
            go_simp
            refine hK.out _ _ trivial (fun _ => ?_)
            clear hK KQ
            try simp only [Act.put, List.setIfInBounds_toArray, List.set_cons_zero, List.set_cons_succ]
            refine wpAnyH_done (by kernel_rfl) ?_ _
            have hto6 := hto5 (D.with (D.L.take p ++ ⟨s, [], []⟩ :: D.L.drop p)) (by rw [tick_L]; rfl) rfl rfl rfl
            obtain ⟨w6, hw6⟩ : ∃ w6, w6 = w5.setCell ⟨g, 0, none⟩ (.slice A5 (nL + 1) c5) := ⟨_, rfl⟩
            rw [← hw6] at hto6 ⊢
            clear hw6 hto5 k5 f5
            obtain ⟨F6, ⟨vL6, l6, ms6, hd6⟩, ht6, hs6⟩ := hto6
            obtain ⟨hri6, hh6, hp6, hfa6⟩ := there_new (f := ⟨s, [], []⟩) (T := D) (T' := D.with (D.L.take p ++ ⟨s, [], []⟩ :: D.L.drop p)) HRI.out HH.out (by rw [show D.pos (PF.mk s [] []).nm = p from HP.out]; rfl)
            rw [show D.pos (PF.mk s [] []).nm = p from HP.out] at hp6
            obtain ⟨m6, hm6, hmn6, hvis6, hpl6⟩ := hd6.there hh6
            have hpf6 := hd6.fileAt hh6 hm6
            rw [hfa6] at hpf6
            have hv6 : m6.vis = [] := (congrArg PF.vis (Option.some.inj hpf6)).symm
            rw [hp6] at hm6 hpl6
            obtain ⟨gr, cap, hvL6, hnc6, hcm6, hne6, hF6, hnb6⟩ := hd6.rowAt (by omega)
            have HTW := Lib.hid (HT2.out.trans ((Touch.of HB4.out).trans ht6 (F := F) (fun k hk => .inl hk)) (fun k hk => .inl hk))
            have HSW : Hid (∀ k, F6 k → F k ∨ w.heap.size ≤ k) := fun k hk => (hs6 k hk).imp id fun hk' => Nat.le_trans (Nat.le_trans HT2.out.size HB4.out.size) hk'
            have hG6 := HG.out.touch HTW.out HSW.out
            obtain ⟨n6, hn6⟩ : ∃ n6, ms6.length = n6 := ⟨_, rfl⟩
            rw [hn6] at hvL6 hnc6 hpl6
            subst hvL6
            have k6 := hd6.c0
            have g6 := (hd6.file rfl hm6).a1
            obtain ⟨AV, cV, A2, c2, w7, hvV, hcV, hmV, hrun, hat, hfz, hfin⟩ := app_done hd6 hm6 (nV := 0) (by rw [hv6]; rfl) hnb6 hG6 (by omega)
            rw [hvV] at g6
            have g1 := hat.a1
            rw [hvV] at g1
            have f1 := hfz (p * 4 + 1)
            have hend := hfin (D.with (D.L.take p ++ ⟨s, zs, []⟩ :: D.L.drop p)) (by
              rw [← hd6.eqL]
              show _ = (D.L.take p ++ ⟨s, [], []⟩ :: D.L.drop p).set p _
              rw [set_mid (by rw [HLEN.out]; omega), ← Option.some.inj hpf6, hv6]
              rfl) rfl rfl rfl
            rw [Nat.zero_add] at hrun hend
            have HR := Lib.hid hrun
            have HEND := Lib.hid hend
            have i5 : (0 : Int) ≤ (p : Int) := by omega
            have i6 : (p : Int) < (n6 : Int) := by omega
            clear hvV hrun hfin hend hG6 hd6 hm6 hmn6 hvis6 hpf6 hfa6 hri6 hh6 hp6 hn6 hv6
            unfold maxLen at hmV
            go_wp2_with (at_builtin; refine wpList_app_run _ rfl (.tmp 71) (.tmp 72) 50 50 rfl rfl rfl HR.out ?_)
            go_ret
            exact ⟨rfl, DiskTo.after HTW.out HSW.out HEND.out⟩
          · intro KQ hK
            rw [if_pos (by rfl)]
            try go_simp
            refine (clone_any s _ (by omega)).mono ?_
            rintro e w3 ⟨rfl, hb3⟩
            replace hb3 : Below w2.heap.size w2 w3 := ((Below.refl _ _).drew).trans hb3
            try go_simp
            refine hK.out _ _ trivial (fun _ => ?_)
            clear hK KQ
            try simp only [Act.put, List.setIfInBounds_toArray, List.set_cons_zero, List.set_cons_succ]
            have k3 : w3.cell? ⟨g, 0, none⟩ = some (.slice AL nL cL) := (hb3.cell (p := ⟨g, 0, none⟩) (HD2.out.lt _ HD2.out.here)).trans k0
            refine ytake_8 (v := ?vv10) (by kernel_rfl) (by kernel_rfl) (by kernel_rfl) (fun _ _ _ h => h) (Or.inl ⟨by rfl, ?hy10⟩) trivial ?_
            case hy10 =>
              intro wX hSw
              go_simp
              try with_reducible rfl
            try simp only [Act.put, List.setIfInBounds_toArray, List.set_cons_zero, List.set_cons_succ]
            refine yready_4_9 (by kernel_rfl) ?_ ?_
            · intro KQ hK
              rw [if_pos (by rfl)]
              go_simp
              refine hK.out _ _ trivial (fun _ => ?_)
              clear hK KQ
              try simp only [Act.put, List.setIfInBounds_toArray, List.set_cons_zero, List.set_cons_succ]
              refine yready_9 (by kernel_rfl) ?_
              intro KQ hK
              rw [if_pos (by rfl)]
              go_simp
              refine hK.out _ _ trivial (fun _ => ?_)
              clear hK KQ
              try simp only [Act.put, List.setIfInBounds_toArray, List.set_cons_zero, List.set_cons_succ]
              obtain ⟨w4, hw4⟩ : ∃ w4, w4 = w3.alloc (.cells #[.string s, .slice none 0 0, .slice none 0 0, .int .i64 0] 80) := ⟨_, rfl⟩
              have hb4 : Below w3.heap.size w3 w4 := by rw [hw4]; exact (Below.refl _ _).alloc (Nat.le_refl _) _
              have hgx : w4.heap[w3.heap.size]? = some (.cells ([.string s, .slice none 0 0, .slice none 0 0, .int .i64 0] : List Value).toArray 80 (0, 0)) := by rw [hw4]; exact heap_alloc_new w3 _
              rw [← hw4]
              clear hw4
              have k4 : w4.cell? ⟨g, 0, none⟩ = some (.slice AL nL cL) := (hb4.cell (p := ⟨g, 0, none⟩) (Nat.lt_of_lt_of_le (HD2.out.lt _ HD2.out.here) hb3.size)).trans k3
              have hd4 := HD2.out.below (hb3.trans (hb4.mono hb3.size))
              have hgF : ¬ F w3.heap.size := fun hf => absurd (HD2.out.lt _ hf) (Nat.not_lt.2 hb3.size)
              have hins := ins_file (m := ⟨s, [], [], .slice none 0 0, .slice none 0 0, 0⟩) hd4 (by rw [HNL.out]; omega) (emptyFile w4 s hn) (fun k hk => by simp [MF.blks, Value.ownBlock] at hk) (by simpa [MF.blks, Value.ownBlock] using hd4.ndF) (by rw [tick_has]; exact HH.out) hgx hgF
              rw [tick_pos, HP.out] at hins
              have HB4 := Lib.hid (hb3.trans (hb4.mono hb3.size))
              clear hd4 hgF hgx hb3 hb4
              refine yready_10 (by kernel_rfl) ?_
              intro KQ hK
              rw [if_pos (by rfl)]
              try go_simp
              refine hins.mono ?_
              rintro e w5 ⟨A5, c5, rfl, k5, f5, hto5⟩
              try go_simp
              refine hK.out _ _ trivial (fun _ => ?_)
              clear hK KQ
              try simp only [Act.put, List.setIfInBounds_toArray, List.set_cons_zero, List.set_cons_succ]
              refine ytake_11 (v := ?vv7) (by kernel_rfl) (by kernel_rfl) (by kernel_rfl) (fun _ _ _ h => h) (Or.inl ⟨by rfl, ?hy7⟩) trivial ?_
              case hy7 =>
                intro wX hSw
                go_simp
                try with_reducible rfl
              try simp only [Act.put, List.setIfInBounds_toArray, List.set_cons_zero, List.set_cons_succ]
              refine ytake_12 (v := ?vv8) (by kernel_rfl) (by kernel_rfl) (by kernel_rfl) (fun _ _ _ h => h) (Or.inl ⟨by rfl, ?hy8⟩) trivial ?_
              case hy8 =>
                intro wX hSw
                go_simp
                try with_reducible rfl
              try simp only [Act.put, List.setIfInBounds_toArray, List.set_cons_zero, List.set_cons_succ]
              refine yready_13 (by kernel_rfl) ?_
              intro KQ hK
              rw [if_pos (by rfl)]
              go_simp
              refine hK.out _ _ trivial (fun _ => ?_)
              clear hK KQ
              try simp only [Act.put, List.setIfInBounds_toArray, List.set_cons_zero, List.set_cons_succ]
              refine wpAnyH_done (by kernel_rfl) ?_ _
              have hto6 := hto5 (D.with (D.L.take p ++ ⟨s, [], []⟩ :: D.L.drop p)) (by rw [tick_L]; rfl) rfl rfl rfl
              obtain ⟨w6, hw6⟩ : ∃ w6, w6 = w5.setCell ⟨g, 0, none⟩ (.slice A5 (nL + 1) c5) := ⟨_, rfl⟩
              rw [← hw6] at hto6 ⊢
              clear hw6 hto5 k5 f5
              obtain ⟨F6, ⟨vL6, l6, ms6, hd6⟩, ht6, hs6⟩ := hto6
              obtain ⟨hri6, hh6, hp6, hfa6⟩ := there_new (f := ⟨s, [], []⟩) (T := D) (T' := D.with (D.L.take p ++ ⟨s, [], []⟩ :: D.L.drop p)) HRI.out HH.out (by rw [show D.pos (PF.mk s [] []).nm = p from HP.out]; rfl)
              rw [show D.pos (PF.mk s [] []).nm = p from HP.out] at hp6
              obtain ⟨m6, hm6, hmn6, hvis6, hpl6⟩ := hd6.there hh6
              have hpf6 := hd6.fileAt hh6 hm6
              rw [hfa6] at hpf6
              have hv6 : m6.vis = [] := (congrArg PF.vis (Option.some.inj hpf6)).symm
              rw [hp6] at hm6 hpl6
              obtain ⟨gr, cap, hvL6, hnc6, hcm6, hne6, hF6, hnb6⟩ := hd6.rowAt (by omega)
              have HTW := Lib.hid (HT2.out.trans ((Touch.of HB4.out).trans ht6 (F := F) (fun k hk => .inl hk)) (fun k hk => .inl hk))
              have HSW : Hid (∀ k, F6 k → F k ∨ w.heap.size ≤ k) := fun k hk => (hs6 k hk).imp id fun hk' => Nat.le_trans (Nat.le_trans HT2.out.size HB4.out.size) hk'
              have hG6 := HG.out.touch HTW.out HSW.out
              obtain ⟨n6, hn6⟩ : ∃ n6, ms6.length = n6 := ⟨_, rfl⟩
              rw [hn6] at hvL6 hnc6 hpl6
              subst hvL6
              have k6 := hd6.c0
              have g6 := (hd6.file rfl hm6).a1
              obtain ⟨AV, cV, A2, c2, w7, hvV, hcV, hmV, hrun, hat, hfz, hfin⟩ := app_done hd6 hm6 (nV := 0) (by rw [hv6]; rfl) hnb6 hG6 (by omega)
              rw [hvV] at g6
              have g1 := hat.a1
              rw [hvV] at g1
              have f1 := hfz (p * 4 + 1)
              have hend := hfin (D.with (D.L.take p ++ ⟨s, zs, []⟩ :: D.L.drop p)) (by
                rw [← hd6.eqL]
                show _ = (D.L.take p ++ ⟨s, [], []⟩ :: D.L.drop p).set p _
                rw [set_mid (by rw [HLEN.out]; omega), ← Option.some.inj hpf6, hv6]
                rfl) rfl rfl rfl
              rw [Nat.zero_add] at hrun hend
              have HR := Lib.hid hrun
              have HEND := Lib.hid hend
              have i5 : (0 : Int) ≤ (p : Int) := by omega
              have i6 : (p : Int) < (n6 : Int) := by omega
              clear hvV hrun hfin hend hG6 hd6 hm6 hmn6 hvis6 hpf6 hfa6 hri6 hh6 hp6 hn6 hv6
              unfold maxLen at hmV
              go_wp2_with (at_builtin; refine wpList_app_run _ rfl (.tmp 71) (.tmp 72) 50 50 rfl rfl rfl HR.out ?_)
              go_ret
              exact ⟨rfl, DiskTo.after HTW.out HSW.out HEND.out⟩
            · intro KQ hK
              rw [if_pos (by rfl)]
              go_simp
              refine hK.out _ _ trivial (fun _ => ?_)
              clear hK KQ
              try simp only [Act.put, List.setIfInBounds_toArray, List.set_cons_zero, List.set_cons_succ]
              obtain ⟨w4, hw4⟩ : ∃ w4, w4 = w3.alloc (.cells #[.string s, .slice none 0 0, .slice none 0 0, .int .i64 0] 80) := ⟨_, rfl⟩
              have hb4 : Below w3.heap.size w3 w4 := by rw [hw4]; exact (Below.refl _ _).alloc (Nat.le_refl _) _
              have hgx : w4.heap[w3.heap.size]? = some (.cells ([.string s, .slice none 0 0, .slice none 0 0, .int .i64 0] : List Value).toArray 80 (0, 0)) := by rw [hw4]; exact heap_alloc_new w3 _
              rw [← hw4]
              clear hw4
              have k4 : w4.cell? ⟨g, 0, none⟩ = some (.slice AL nL cL) := (hb4.cell (p := ⟨g, 0, none⟩) (Nat.lt_of_lt_of_le (HD2.out.lt _ HD2.out.here) hb3.size)).trans k3
              refine yready_4 (by kernel_rfl) ?_
              intro KQ hK
              rw [if_pos (by rfl)]
              go_simp
              refine hK.out _ _ trivial (fun _ => ?_)
              clear hK KQ
              try simp only [Act.put, List.setIfInBounds_toArray, List.set_cons_zero, List.set_cons_succ]
              have hd4 := HD2.out.below (hb3.trans (hb4.mono hb3.size))
              have hgF : ¬ F w3.heap.size := fun hf => absurd (HD2.out.lt _ hf) (Nat.not_lt.2 hb3.size)
              have hins := ins_file (m := ⟨s, [], [], .slice none 0 0, .slice none 0 0, 0⟩) hd4 (by rw [HNL.out]; omega) (emptyFile w4 s hn) (fun k hk => by simp [MF.blks, Value.ownBlock] at hk) (by simpa [MF.blks, Value.ownBlock] using hd4.ndF) (by rw [tick_has]; exact HH.out) hgx hgF
              rw [tick_pos, HP.out] at hins
              have HB4 := Lib.hid (hb3.trans (hb4.mono hb3.size))
              clear hd4 hgF hgx hb3 hb4
              refine yready_10 (by kernel_rfl) ?_
              intro KQ hK
              rw [if_pos (by rfl)]
              try go_simp
              refine hins.mono ?_
              rintro e w5 ⟨A5, c5, rfl, k5, f5, hto5⟩
              try go_simp
              refine hK.out _ _ trivial (fun _ => ?_)
              clear hK KQ
              try simp only [Act.put, List.setIfInBounds_toArray, List.set_cons_zero, List.set_cons_succ]
              refine ytake_11 (v := ?vv7) (by kernel_rfl) (by kernel_rfl) (by kernel_rfl) (fun _ _ _ h => h) (Or.inl ⟨by rfl, ?hy7⟩) trivial ?_
              case hy7 =>
                intro wX hSw
                go_simp
                try with_reducible rfl
              try simp only [Act.put, List.setIfInBounds_toArray, List.set_cons_zero, List.set_cons_succ]
              refine ytake_12 (v := ?vv8) (by kernel_rfl) (by kernel_rfl) (by kernel_rfl) (fun _ _ _ h => h) (Or.inl ⟨by rfl, ?hy8⟩) trivial ?_
              case hy8 =>
                intro wX hSw
                go_simp
                try with_reducible rfl
              try simp only [Act.put, List.setIfInBounds_toArray, List.set_cons_zero, List.set_cons_succ]
              refine yready_13 (by kernel_rfl) ?_
              intro KQ hK
              rw [if_pos (by rfl)]
              go_simp
              refine hK.out _ _ trivial (fun _ => ?_)
              clear hK KQ
              try simp only [Act.put, List.setIfInBounds_toArray, List.set_cons_zero, List.set_cons_succ]
              refine wpAnyH_done (by kernel_rfl) ?_ _
              have hto6 := hto5 (D.with (D.L.take p ++ ⟨s, [], []⟩ :: D.L.drop p)) (by rw [tick_L]; rfl) rfl rfl rfl
              obtain ⟨w6, hw6⟩ : ∃ w6, w6 = w5.setCell ⟨g, 0, none⟩ (.slice A5 (nL + 1) c5) := ⟨_, rfl⟩
              rw [← hw6] at hto6 ⊢
              clear hw6 hto5 k5 f5
              obtain ⟨F6, ⟨vL6, l6, ms6, hd6⟩, ht6, hs6⟩ := hto6
              obtain ⟨hri6, hh6, hp6, hfa6⟩ := there_new (f := ⟨s, [], []⟩) (T := D) (T' := D.with (D.L.take p ++ ⟨s, [], []⟩ :: D.L.drop p)) HRI.out HH.out (by rw [show D.pos (PF.mk s [] []).nm = p from HP.out]; rfl)
              rw [show D.pos (PF.mk s [] []).nm = p from HP.out] at hp6
              obtain ⟨m6, hm6, hmn6, hvis6, hpl6⟩ := hd6.there hh6
              have hpf6 := hd6.fileAt hh6 hm6
              rw [hfa6] at hpf6
              have hv6 : m6.vis = [] := (congrArg PF.vis (Option.some.inj hpf6)).symm
              rw [hp6] at hm6 hpl6
              obtain ⟨gr, cap, hvL6, hnc6, hcm6, hne6, hF6, hnb6⟩ := hd6.rowAt (by omega)
              have HTW := Lib.hid (HT2.out.trans ((Touch.of HB4.out).trans ht6 (F := F) (fun k hk => .inl hk)) (fun k hk => .inl hk))
              have HSW : Hid (∀ k, F6 k → F k ∨ w.heap.size ≤ k) := fun k hk => (hs6 k hk).imp id fun hk' => Nat.le_trans (Nat.le_trans HT2.out.size HB4.out.size) hk'
              have hG6 := HG.out.touch HTW.out HSW.out
              obtain ⟨n6, hn6⟩ : ∃ n6, ms6.length = n6 := ⟨_, rfl⟩
              rw [hn6] at hvL6 hnc6 hpl6
              subst hvL6
              have k6 := hd6.c0
              have g6 := (hd6.file rfl hm6).a1
              obtain ⟨AV, cV, A2, c2, w7, hvV, hcV, hmV, hrun, hat, hfz, hfin⟩ := app_done hd6 hm6 (nV := 0) (by rw [hv6]; rfl) hnb6 hG6 (by omega)
              rw [hvV] at g6
              have g1 := hat.a1
              rw [hvV] at g1
              have f1 := hfz (p * 4 + 1)
              have hend := hfin (D.with (D.L.take p ++ ⟨s, zs, []⟩ :: D.L.drop p)) (by
                rw [← hd6.eqL]
                show _ = (D.L.take p ++ ⟨s, [], []⟩ :: D.L.drop p).set p _
                rw [set_mid (by rw [HLEN.out]; omega), ← Option.some.inj hpf6, hv6]
                rfl) rfl rfl rfl
              rw [Nat.zero_add] at hrun hend
              have HR := Lib.hid hrun
              have HEND := Lib.hid hend
              have i5 : (0 : Int) ≤ (p : Int) := by omega
              have i6 : (p : Int) < (n6 : Int) := by omega
              clear hvV hrun hfin hend hG6 hd6 hm6 hmn6 hvis6 hpf6 hfa6 hri6 hh6 hp6 hn6 hv6
              unfold maxLen at hmV
              go_wp2_with (at_builtin; refine wpList_app_run _ rfl (.tmp 71) (.tmp 72) 50 50 rfl rfl rfl HR.out ?_)
              go_ret
              exact ⟨rfl, DiskTo.after HTW.out HSW.out HEND.out⟩

end Go.Proofs.Ytecgagfpckaieaa
