/-
  Package disk: Append.
-/
import Derived.Test.YtaccmjgnggepjaaKZF
namespace Go.Proofs.Ytaccmjgnggepjaa
open Go.RowKit

def PD.lenAt (D : PD) (s : ByteArray) : Nat := ((D.fileAt s).map fun f => f.vis.length).getD 0
def dAppend (D : PD) (s : ByteArray) (b : List Int) : PD × Int :=
  if okName s = false then (D, 1) else if D.tick.off = true then (D.tick, 9) else if 1048576 < b.length + D.lenAt s then (D.tick, 2) else match D.fileAt s with
    | some f => (D.with (D.L.set (D.pos s) { f with vis := f.vis ++ b }), 0)
    | none => if D.L.length = 16 then (D.tick, 8) else (D.with (D.L.take (D.pos s) ++ ⟨s, b, []⟩ :: D.L.drop (D.pos s)), 0)

/-- bytes that are handed in -/
structure GivB (w : World) (F : Nat → Prop) (A : Option Addr) (n c : Nat) (zs : List Int) : Prop where
  hz : zs.length = n
  rd : Rd w A (u8s zs)
  byt : Byts zs
  hc : n ≤ c
  hm : c ≤ maxLen
  few : n ≤ 1000000
  far : ∀ a, A = some a → 0 < n → ¬ F a.block
theorem GivB.touch {w w' : World} {F F' : Nat → Prop} {A : Option Addr} {n c : Nat} {zs : List Int} (h : GivB w F A n c zs) (ht : Touch F w w') (hF : ∀ k, F' k → F k ∨ w.heap.size ≤ k) : GivB w' F' A n c zs where
  hz := h.hz
  rd := by
    rcases Nat.eq_zero_or_pos n with h0 | h0
    · have : zs = [] := List.eq_nil_of_length_eq_zero (by rw [h.hz]; exact h0)
      subst this
      exact Rd.nil _ _
    · exact h.rd.kept ht.size fun a ha hl => ht.block _ hl (h.far a ha h0)
  byt := h.byt
  hc := h.hc
  hm := h.hm
  few := h.few
  far := fun a ha h0 hf => by
    obtain ⟨b, off, e, hb, _⟩ := h.rd.open_ (by rw [u8s_length, h.hz]; exact h0)
    rw [e] at ha
    cases ha
    rcases hF _ hf with h' | h'
    · exact h.far _ e h0 h'
    · exact absurd hb (by show ¬ b < _; exact Nat.not_lt.2 h')

theorem emptyFile (w : World) (s : ByteArray) (h : okName s = true) : FileIn w ⟨s, [], [], .slice none 0 0, .slice none 0 0, 0⟩ where
  rV := World.ownsRow_nil _ _ _ _
  rD := World.ownsRow_nil _ _ _ _
  s1 := Nat.le_refl _
  s2 := Nat.le_refl _
  s3 := rfl
  b1 := Byts.nil
  b2 := Byts.nil
  z1 := by show 0 ≤ _; omega
  z2 := by show 0 ≤ _; omega
  ok := h

/-- behind the append to what is seen of a file -/
theorem app_done {w1 : World} {g : Nat} {F : Nat → Prop} {T : PD} {l : Int} {ms : List MF} {m : MF} {p gr nL cap nV : Nat} {A : Option Addr} {nb cb : Nat} {zs : List Int} (h : DiskIn w1 g F T (.slice (some ⟨gr, 0, none⟩) nL cap) l ms) (hm : ms[p]? = some m) (hnV : m.vis.length = nV) (hnb : ∀ m ∈ ms, gr ∉ m.blks) (hG : GivB w1 F A nb cb zs) (hfit : nb + nV ≤ 1048576) :
    ∃ AV cV A2 c2 w2, m.vV = .slice AV nV cV ∧ nV ≤ cV ∧ cV ≤ maxLen ∧ (Builtin.append_ #[48, 48] 48 #[.slice AV nV cV, .slice A nb cb]).run Try.prog w1 = .ok (.slice A2 (nV + nb) c2) w2 ∧
      AtFile w2 gr p m ∧ (∀ o, w2.frozen? ⟨gr, o, none⟩ = false) ∧
      ∀ T' : PD, T'.L = (ms.map MF.pf).set p { m.pf with vis := m.vis ++ zs } → T'.calls = T.calls → T'.left = T.left → T'.off = T.off → DiskTo g F T' w1 (w2.setCell ⟨gr, p * 4 + 1, none⟩ (.slice A2 (nV + nb) c2)) := by
  have hmem : m ∈ ms := List.mem_of_getElem? hm
  have hf := h.els m hmem
  obtain ⟨AV, cV, hvV, hcV, hmV, _⟩ := rd_own hf.rV
  rw [hnV] at hvV hcV
  have hrV : w1.ownsRow 0 5 1 (.slice AV nV cV) nV (u8s m.vis) := by have := hf.rV; rwa [hvV, hnV] at this
  have hz1 := hf.z1
  have hfew := hG.few
  obtain ⟨A2, c2, w2, hrun, hown, hg, hloc⟩ := run_app_loc (P := Try.prog) w1 48 48 0 5 (.int .u8 0) 1 Try.underlying48 info_u8 rfl (by decide) (.slice AV nV cV) nV _ hrV A nb cb (u8s zs) (by rw [u8s_length, hG.hz]) hG.rd (u8s_one _) (by omega) (by omega)
  rw [← hvV] at hg hloc
  have hgr : gr < w1.heap.size := h.lt _ (h.rowF rfl)
  have hbm := hnb m hmem
  have hgrne : m.vV.ownBlock ≠ some gr := fun e => hbm (by simp [MF.blks, e])
  have hgb : w2.heap[gr]? = w1.heap[gr]? := hg.block gr hgr (fun e => hgrne e.symm)
  have hkf := h.file rfl hm
  have hnd := blks_nd h.ndF hmem
  have hn : nL = ms.length := by
    rcases h.row.2 with ⟨hv, _⟩ | ⟨_, _, _, hv, _⟩
    · cases hv
    · cases hv; rfl
  have hrow : w2.ownsRow 0 82 4 (.slice (some ⟨gr, 0, none⟩) nL cap) nL (cellsD ms) := by
    have hr := h.row
    rw [← hn] at hr
    exact own_kept hr fun k hk _ => by cases hk; exact hgb
  refine ⟨AV, cV, A2, c2, w2, hvV, hcV, hmV, hrun, ⟨(World.cell?_of_block (a := ⟨gr, p * 4, none⟩) hgb).trans hkf.a0, (World.cell?_of_block (a := ⟨gr, p * 4 + 1, none⟩) hgb).trans hkf.a1, (World.cell?_of_block (a := ⟨gr, p * 4 + 2, none⟩) hgb).trans hkf.a2, (World.cell?_of_block (a := ⟨gr, p * 4 + 3, none⟩) hgb).trans hkf.a3⟩, fun o => (World.frozen?_of_block (a := ⟨gr, o, none⟩) hgb).trans (h.rowfz rfl o), ?_⟩
  intro T' hL hc hl ho
  obtain ⟨w4, hw4⟩ : ∃ w4, w4 = w2.setCell ⟨gr, p * 4 + 1, none⟩ (.slice A2 (nV + nb) c2) := ⟨_, rfl⟩
  have s2 := (hrow.stored (p * 4 + 1) (.slice A2 (nV + nb) c2)).1
  have hset : (cellsD ms).set (p * 4 + 1) (.slice A2 (nV + nb) c2) = cellsD (ms.set p { m with vis := m.vis ++ zs, vV := .slice A2 (nV + nb) c2 }) := by
    rw [← cellsD_set_at hm { m with vis := m.vis ++ zs, vV := .slice A2 (nV + nb) c2 } rfl]
    rw [set_same (i := p * 4 + 2) (by rw [List.getElem?_set_ne (by omega)]; exact cellsD_at hm (j := 2) rfl), set_same (i := p * 4 + 3) (by rw [List.getElem?_set_ne (by omega)]; exact cellsD_at hm (j := 3) rfl)]
  rw [hset, ← hw4] at s2
  rw [← hw4]
  have hset4 : ∀ k, k ≠ gr → w4.heap[k]? = w2.heap[k]? := fun k hk => by
    rw [hw4, heap_setCell_other _ ⟨gr, p * 4 + 1, none⟩ k _ hk]
  have ht : Touch (fun k => k = gr ∨ k ∈ m.blks) w1 w4 := by
    rw [hw4]
    exact (Touch.grown (F := fun k => k = gr ∨ k ∈ m.blks) hg fun k hk => .inr (by simp [MF.blks, hk])).set (.inl (.inl rfl)) _
  have hAg : (Value.slice A2 (nV + nb) c2).ownBlock ≠ some gr := by
    rcases hloc with e | e <;> rw [e]
    · exact hgrne
    · intro e'; cases e'; omega
  have hdis : ∀ k, m.vV.ownBlock = some k → m.dV.ownBlock ≠ some k := by
    intro k hk hk'
    simp only [MF.blks, hk, hk', Option.toList_some, List.nodup_append, List.mem_singleton] at hnd
    exact hnd.2.2 k rfl k rfl rfl
  have hdlt : ∀ k, m.dV.ownBlock = some k → k < w1.heap.size := fun k hk => (own_lt hf.rD hk).1
  have hkD : ∀ k, m.dV.ownBlock = some k → w4.heap[k]? = w1.heap[k]? := fun k hk => by
    have hkg : k ≠ gr := fun e => hbm (by rw [← e]; simp [MF.blks, hk])
    rw [hset4 k hkg]
    exact hg.block k (hdlt k hk) (fun e => hdis k e.symm hk)
  have hs1 := hf.s1
  rw [hnV] at hs1
  refine h.fileTo (T' := T') hm (m' := { m with vis := m.vis ++ zs, vV := .slice A2 (nV + nb) c2 }) rfl ht s2 ?_ ?_ ?_ hL hc hl ho
  · exact
      { rV := by
          show w4.ownsRow 0 5 1 (.slice A2 (nV + nb) c2) (m.vis ++ zs).length (u8s (m.vis ++ zs))
          rw [List.length_append, hnV, hG.hz, u8s_append]
          exact own_kept hown fun k hk _ => hset4 k (fun e => hAg (by rw [hk, e]))
        rD := own_kept hf.rD fun k hk _ => hkD k hk
        s1 := by show m.same ≤ (m.vis ++ zs).length; rw [List.length_append, hnV]; omega
        s2 := hf.s2
        s3 := by
          show (m.vis ++ zs).take m.same = m.dur.take m.same
          rw [List.take_append_of_le_length (by rw [hnV]; exact hs1)]
          exact hf.s3
        b1 := hf.b1.append hG.byt
        b2 := hf.b2
        z1 := by show (m.vis ++ zs).length ≤ 1048576; rw [List.length_append, hnV, hG.hz]; omega
        z2 := hf.z2
        ok := hf.ok }
  · intro k hk
    simp only [MF.blks, List.mem_append, Option.mem_toList] at hk ⊢
    rcases hk with hk | hk
    · rcases hloc with e | e
      · exact .inl (.inl (by rw [← e]; exact hk))
      · rw [e] at hk; cases hk; exact .inr (Nat.le_refl _)
    · exact .inl (.inr hk)
  · show ((Value.slice A2 (nV + nb) c2).ownBlock.toList ++ m.dV.ownBlock.toList).Nodup
    rcases hloc with e | e
    · rw [e]; exact hnd
    · rw [e]
      simp only [List.nodup_append, Option.toList_some, List.mem_singleton, Option.mem_toList]
      refine ⟨by simp, by cases m.dV.ownBlock <;> simp, ?_⟩
      rintro a rfl b hb rfl
      exact absurd (hdlt _ hb) (by omega)

set_option maxRecDepth 100000 in
set_option maxHeartbeats 8000000 in
theorem append_is {F : Nat → Prop} {D : PD} (g : Nat) (s : ByteArray) (A : Option Addr) (nb cb : Nat) (zs : List Int) (w : World) (h : IsDisk w g F D) (hs : s.size ≤ maxLen) (hc : D.calls ≤ 1000000) (hG : GivB w F A nb cb zs) :
    Calls Try.prog 74 #[.pointer (some ⟨g, 0, none⟩), .string s, .slice A nb cb] w fun e w' => e = .returned (.int .i64 (dAppend D s zs).2) ∧ DiskTo g F (dAppend D s zs).1 w w' := by
  obtain ⟨vL, l, ms, h⟩ := h
  have HD := Lib.hid h
  have HG := Lib.hid hG
  have hfb := hG.few
  have hzb := hG.hz
  cases hn : okName s with
  | false =>
    have hr : dAppend D s zs = (D, 1) := by rw [dAppend, if_pos hn]
    rw [hr]
    clear hr h hG hzb
    go_enter Try.func74, Try.ntmps74
    go_wp2_with (go_at_call 76; refine (begin_no _ _ _ hs hn).mono ?_; rintro e w' ⟨rfl, rfl⟩)
    go_ret
    exact ⟨rfl, DiskTo.same ⟨_, _, _, HD.out⟩⟩
  | true =>
    cases hoff : D.tick.off with
    | true =>
      have hr : dAppend D s zs = (D.tick, 9) := by rw [dAppend, if_neg (by rw [hn]; decide), if_pos hoff]
      rw [hr]
      clear hr h hG hzb
      go_enter Try.func74, Try.ntmps74
      go_wp2_with (go_at_call 76; refine (begin_yes true _ _ _ HD.out hs hn hc hoff).mono ?_; rintro e w' ⟨rfl, hto⟩)
      go_ret
      exact ⟨rfl, hto.done HD.out.here⟩
    | false =>
      have hda : dAppend D s zs = if 1048576 < zs.length + D.lenAt s then (D.tick, (2 : Int)) else match D.fileAt s with
          | some f => (D.with (D.L.set (D.pos s) { f with vis := f.vis ++ zs }), 0)
          | none => if D.L.length = 16 then (D.tick, 8) else (D.with (D.L.take (D.pos s) ++ ⟨s, zs, []⟩ :: D.L.drop (D.pos s)), 0) := by
        rw [dAppend, if_neg (by rw [hn]; decide), if_neg (by rw [hoff]; decide)]
      cases hh : D.has s with
      | true =>
        obtain ⟨m, hm, hmn, hvis, hpl⟩ := h.there hh
        have hfa := h.fileAt hh hm
        have hfew := h.few
        obtain ⟨p, hp⟩ : ∃ p, D.pos s = p := ⟨_, rfl⟩
        rw [hp] at hm hpl
        obtain ⟨gr, cap, hvL, hnc, hcm, hne, hF, hnb⟩ := h.rowAt (by omega)
        have hmem : m ∈ ms := List.mem_of_getElem? hm
        obtain ⟨nL, hnL⟩ : ∃ nL, ms.length = nL := ⟨_, rfl⟩
        rw [hnL] at hvL hnc hpl hfew
        obtain ⟨nV, hnV⟩ : ∃ nV, m.vis.length = nV := ⟨_, rfl⟩
        have hz1 := (h.els m hmem).z1
        rw [hnV] at hz1
        have hla : D.lenAt s = nV := by rw [PD.lenAt, hfa]; exact hnV
        rw [hla, hzb] at hda
        have HNL := Lib.hid hnL
        have HNV := Lib.hid hnV
        have HM := Lib.hid hm
        have HMM := Lib.hid hmem
        have HP := Lib.hid hp
        have HH := Lib.hid hh
        have HFA := Lib.hid hfa
        have HDA := Lib.hid hda
        have HBL := Lib.hid hnb
        have HVL := Lib.hid hvL
        subst hvL
        clear h hfa hvis hm hmem hmn hp hh hnb hnV hnL hla hda hG hzb
        have i0 : (0 : Int) ≤ (p : Int) := by omega
        have i1 : (p : Int) < (nL : Int) := by omega
        by_cases hbig : 1048576 < nb + nV
        · have hr : dAppend D s zs = (D.tick, 2) := by rw [HDA.out, if_pos hbig]
          rw [hr]
          clear hr
          have i2 : (1048576 : Int) < (nb : Int) + (nV : Int) := by omega
          go_enter Try.func74, Try.ntmps74
          go_wp2_with fail
          refine (begin_yes false _ _ _ HD.out hs hn hc hoff).mono ?_
          rintro e w1 ⟨rfl, hto⟩
          have HTO := Lib.hid hto
          obtain ⟨l1, hd1, _⟩ := hto
          go_wp2_with fail
          refine (find_any g s _ hd1).mono ?_
          rintro e w2 ⟨he, hb2⟩
          rw [tick_pos, tick_has, HH.out, HP.out] at he
          subst he
          have hd2 := hd1.below hb2
          have k0 := hd2.c0
          have k1 := (hd2.file rfl HM.out).a1
          obtain ⟨AV, cV, hvV, hcV, hmV, _⟩ := rd_own (hd2.els m HMM.out).rV
          rw [HNV.out] at hvV
          rw [hvV] at k1
          clear hvV hd1 hd2
          go_wp2_with fail
          go_ret
          exact ⟨rfl, (HTO.out.below hb2).done HD.out.here⟩
        · have hr : dAppend D s zs = (D.with (D.L.set p { m.pf with vis := m.vis ++ zs }), 0) := by rw [HDA.out, if_neg hbig, HFA.out, HP.out]; rfl
          rw [hr]
          clear hr
          have i2 : ¬ ((1048576 : Int) < (nb : Int) + (nV : Int)) := by omega
          go_enter Try.func74, Try.ntmps74
          go_wp2_with fail
          refine (begin_yes false _ _ _ HD.out hs hn hc hoff).mono ?_
          rintro e w1 ⟨rfl, hto⟩
          have HTO := Lib.hid hto
          obtain ⟨l1, hd1, _⟩ := hto
          go_wp2_with fail
          refine (find_any g s _ hd1).mono ?_
          rintro e w2 ⟨he, hb2⟩
          rw [tick_pos, tick_has, HH.out, HP.out] at he
          subst he
          have hd2 := hd1.below hb2
          have HT2 := Lib.hid ((HTO.out.below hb2).touch HD.out.here)
          have hG2 := HG.out.touch HT2.out (fun k hk => .inl hk)
          have k0 := hd2.c0
          have kf := hd2.file rfl HM.out
          have k1 := kf.a1
          obtain ⟨AV, cV, A2, c2, w3, hvV, hcV, hmV, hrun, hat, hfz, hfin⟩ := app_done hd2 HM.out HNV.out HBL.out hG2 (by omega)
          rw [hvV] at k1
          have g1 := hat.a1
          rw [hvV] at g1
          have f1 := hfz (p * 4 + 1)
          have HR := Lib.hid hrun
          have HFIN := Lib.hid hfin
          clear hvV hd1 hd2 hrun hfin kf hG2
          unfold maxLen at hmV
          go_wp2_with (at_builtin; refine wpList_app_run _ rfl (.tmp 71) (.tmp 72) 48 48 rfl rfl rfl HR.out ?_)
          go_ret
          exact ⟨rfl, DiskTo.behind HT2.out (HFIN.out _ (by show D.L.set p _ = _; rw [HD.out.eqL]) rfl rfl rfl)⟩
      | false =>
        have hfa : D.fileAt s = none := by rw [PD.fileAt, if_neg (by rw [hh]; decide)]
        have hla : D.lenAt s = 0 := by rw [PD.lenAt, hfa]; rfl
        rw [hla, hzb, if_neg (by omega), hfa] at hda
        obtain ⟨AL, cL, hvL, hnc, hcm, _⟩ := h.slice rfl
        have hfew := h.few
        have hlen := h.lenL
        have hrise := h.rise
        obtain ⟨p, hp⟩ : ∃ p, D.pos s = p := ⟨_, rfl⟩
        have hpl : p ≤ ms.length := by rw [← hp, PD.pos, h.nmL]; have := posN_le (ms.map MF.nm) s; simpa using this
        obtain ⟨nL, hnL⟩ : ∃ nL, ms.length = nL := ⟨_, rfl⟩
        rw [hnL] at hvL hnc hpl hfew hlen
        have HNL := Lib.hid hnL
        have HP := Lib.hid hp
        have HH := Lib.hid hh
        have HDA := Lib.hid hda
        have HLEN := Lib.hid hlen
        have HRI := Lib.hid hrise
        subst hvL
        clear h hfa hla hp hh hda hG hzb hnL hlen hrise
        have i2 : ¬ ((1048576 : Int) < (nb : Int)) := by omega
        have i4 : ¬ ((1048576 : Int) < (nb : Int) + 0) := by omega
        by_cases hfull : nL = 16
        · have hr : dAppend D s zs = (D.tick, 8) := by rw [HDA.out]; exact if_pos (by rw [HLEN.out]; exact hfull)
          rw [hr]
          clear hr
          have i3 : (nL : Int) = 16 := by omega
          go_enter Try.func74, Try.ntmps74
          go_wp2_with fail
          refine (begin_yes false _ _ _ HD.out hs hn hc hoff).mono ?_
          rintro e w1 ⟨rfl, hto⟩
          have HTO := Lib.hid hto
          obtain ⟨l1, hd1, _⟩ := hto
          go_wp2_with fail
          refine (find_any g s _ hd1).mono ?_
          rintro e w2 ⟨he, hb2⟩
          rw [tick_pos, tick_has, HH.out, HP.out] at he
          subst he
          have hd2 := hd1.below hb2
          have k0 := hd2.c0
          clear hd1 hd2
          go_wp2_with fail
          go_ret
          exact ⟨rfl, (HTO.out.below hb2).done HD.out.here⟩
        · have hr : dAppend D s zs = (D.with (D.L.take p ++ ⟨s, zs, []⟩ :: D.L.drop p), 0) := by rw [HDA.out, HP.out]; exact if_neg (by rw [HLEN.out]; exact hfull)
          rw [hr]
          clear hr
          have i3 : ¬ ((nL : Int) = 16) := by omega
          have hsz := okName_size hn
          go_enter Try.func74, Try.ntmps74
          go_wp2_with fail
          refine (begin_yes false _ _ _ HD.out hs hn hc hoff).mono ?_
          rintro e w1 ⟨rfl, hto⟩
          have HTO := Lib.hid hto
          obtain ⟨l1, hd1, _⟩ := hto
          go_wp2_with fail
          refine (find_any g s _ hd1).mono ?_
          rintro e w2 ⟨he, hb2⟩
          rw [tick_pos, tick_has, HH.out, HP.out] at he
          subst he
          have hd2 := hd1.below hb2
          have HD2 := Lib.hid hd2
          have HT2 := Lib.hid ((HTO.out.below hb2).touch HD.out.here)
          have k0 := hd2.c0
          clear hd1 hd2
          go_wp2_with fail
          have hn15 : nL ≤ 15 := by omega
          clear i2 i3 i4 hfull
          refine wp_region_held_drew (S := fun _ => True) (by kernel_rfl) trivial (fun _ => ?_)
          refine ytake_0 (v := ?vv1) (by kernel_rfl) (by kernel_rfl) (by kernel_rfl) (fun _ _ _ h => h) (Or.inl ⟨by rfl, ?hy1⟩) trivial ?_
          case hy1 =>
            intro wX hSw
            go_simp
            try with_reducible rfl
          try simp only [Act.put, List.setIfInBounds_toArray, List.set_cons_zero, List.set_cons_succ]
          refine ytake_1 (v := ?vv2) (by kernel_rfl) (by kernel_rfl) (by kernel_rfl) (fun _ _ _ h => h) (Or.inl ⟨by rfl, ?hy2⟩) trivial ?_
          case hy2 =>
            intro wX hSw
            go_simp
            try with_reducible rfl
          try simp only [Act.put, List.setIfInBounds_toArray, List.set_cons_zero, List.set_cons_succ]
          refine ytake_2 (v := ?vv3) (by kernel_rfl) (by kernel_rfl) (by kernel_rfl) (fun _ _ _ h => h) (Or.inl ⟨by rfl, ?hy3⟩) trivial ?_
          case hy3 =>
            intro wX hSw
            go_simp
            try with_reducible rfl
          try simp only [Act.put, List.setIfInBounds_toArray, List.set_cons_zero, List.set_cons_succ]
          refine ytake_3 (v := ?vv4) (by kernel_rfl) (by kernel_rfl) (by kernel_rfl) (fun _ _ _ h => h) (Or.inl ⟨by rfl, ?hy4⟩) trivial ?_
          case hy4 =>
            intro wX hSw
            go_simp
            try with_reducible rfl
          try simp only [Act.put, List.setIfInBounds_toArray, List.set_cons_zero, List.set_cons_succ]
          refine ytake_5 (v := ?vv5) (by kernel_rfl) (by kernel_rfl) (by kernel_rfl) (fun _ _ _ h => h) (Or.inl ⟨by rfl, ?hy5⟩) trivial ?_
          case hy5 =>
            intro wX hSw
            go_simp
            try with_reducible rfl
          try simp only [Act.put, List.setIfInBounds_toArray, List.set_cons_zero, List.set_cons_succ]
          refine ytake_6 (v := ?vv6) (by kernel_rfl) (by kernel_rfl) (by kernel_rfl) (fun _ _ _ h => h) (Or.inl ⟨by rfl, ?hy6⟩) trivial ?_
          case hy6 =>
            intro wX hSw
            go_simp
            try with_reducible rfl
          try simp only [Act.put, List.setIfInBounds_toArray, List.set_cons_zero, List.set_cons_succ]
          refine yready_4_7 (by kernel_rfl) ?_ ?_
          · intro KQ hK
            rw [if_pos (by rfl)]
            go_simp
            refine hK.out _ _ trivial (fun _ => ?_)
            clear hK KQ
            try simp only [Act.put, List.setIfInBounds_toArray, List.set_cons_zero, List.set_cons_succ]
            refine yready_7 (by kernel_rfl) ?_
            intro KQ hK
            rw [if_pos (by rfl)]
            try go_simp
            refine (clone_any s _ (by omega)).mono ?_
            rintro e w3 ⟨rfl, hb3⟩
            replace hb3 : Below w2.heap.size w2 w3 := ((Below.refl _ _).drew).trans hb3
            try go_simp
            refine hK.out _ _ trivial (fun _ => ?_)
            clear hK KQ
            try simp only [Act.put, List.setIfInBounds_toArray, List.set_cons_zero, List.set_cons_succ]
            have k3 : w3.cell? ⟨g, 0, none⟩ = some (.slice AL nL cL) := (hb3.cell (p := ⟨g, 0, none⟩) (HD2.out.lt _ HD2.out.here)).trans k0
            refine ytake_8 (v := ?vv9) (by kernel_rfl) (by kernel_rfl) (by kernel_rfl) (fun _ _ _ h => h) (Or.inl ⟨by rfl, ?hy9⟩) trivial ?_
            case hy9 =>
              intro wX hSw
              go_simp
              try with_reducible rfl
            try simp only [Act.put, List.setIfInBounds_toArray, List.set_cons_zero, List.set_cons_succ]
            refine yready_9 (by kernel_rfl) ?_
            intro KQ hK
            rw [if_pos (by rfl)]
            go_simp
            refine hK.out _ _ trivial (fun _ => ?_)
            clear hK KQ
            try simp only [Act.put, List.setIfInBounds_toArray, List.set_cons_zero, List.set_cons_succ]
            obtain ⟨w4, hw4⟩ : ∃ w4, w4 = w3.alloc (.cells #[.string s, .slice none 0 0, .slice none 0 0, .int .i64 0] 82) := ⟨_, rfl⟩
            have hb4 : Below w3.heap.size w3 w4 := by rw [hw4]; exact (Below.refl _ _).alloc (Nat.le_refl _) _
            have hgx : w4.heap[w3.heap.size]? = some (.cells ([.string s, .slice none 0 0, .slice none 0 0, .int .i64 0] : List Value).toArray 82 (0, 0)) := by rw [hw4]; exact heap_alloc_new w3 _
            rw [← hw4]
            clear hw4
            have k4 : w4.cell? ⟨g, 0, none⟩ = some (.slice AL nL cL) := (hb4.cell (p := ⟨g, 0, none⟩) (Nat.lt_of_lt_of_le (HD2.out.lt _ HD2.out.here) hb3.size)).trans k3
            have hd4 := HD2.out.below (hb3.trans (hb4.mono hb3.size))
            have hgF : ¬ F w3.heap.size := fun hf => absurd (HD2.out.lt _ hf) (Nat.not_lt.2 hb3.size)
            have hins := ins_file (m := ⟨s, [], [], .slice none 0 0, .slice none 0 0, 0⟩) hd4 (by rw [HNL.out]; omega) (emptyFile w4 s hn) (fun k hk => by simp [MF.blks, Value.ownBlock] at hk) (by simpa [MF.blks, Value.ownBlock] using hd4.ndF) (by rw [tick_has]; exact HH.out) hgx hgF
            rw [tick_pos, HP.out] at hins
            have HB4 := Lib.hid (hb3.trans (hb4.mono hb3.size))
            clear hd4 hgF hgx hb3 hb4
            refine yready_10 (by kernel_rfl) ?_
            intro KQ hK
            rw [if_pos (by rfl)]
            try go_simp
            refine hins.mono ?_
            rintro e w5 ⟨A5, c5, rfl, k5, f5, hto5⟩
            try go_simp
            refine hK.out _ _ trivial (fun _ => ?_)
            clear hK KQ
            try simp only [Act.put, List.setIfInBounds_toArray, List.set_cons_zero, List.set_cons_succ]
            refine ytake_11 (v := ?vv7) (by kernel_rfl) (by kernel_rfl) (by kernel_rfl) (fun _ _ _ h => h) (Or.inl ⟨by rfl, ?hy7⟩) trivial ?_
            case hy7 =>
              intro wX hSw
              go_simp
              try with_reducible rfl
            try simp only [Act.put, List.setIfInBounds_toArray, List.set_cons_zero, List.set_cons_succ]
            refine ytake_12 (v := ?vv8) (by kernel_rfl) (by kernel_rfl) (by kernel_rfl) (fun _ _ _ h => h) (Or.inl ⟨by rfl, ?hy8⟩) trivial ?_
            case hy8 =>
              intro wX hSw
              go_simp
              try with_reducible rfl
            try simp only [Act.put, List.setIfInBounds_toArray, List.set_cons_zero, List.set_cons_succ]
            refine yready_13 (by kernel_rfl) ?_
            intro KQ hK
            rw [if_pos (by rfl)]
            go_simp
            refine hK.out _ _ trivial (fun _ => ?_)
            clear hK KQ
            try simp only [Act.put, List.setIfInBounds_toArray, List.set_cons_zero, List.set_cons_succ]
            refine wpAnyH_done (by kernel_rfl) ?_ _
            have hto6 := hto5 (D.with (D.L.take p ++ ⟨s, [], []⟩ :: D.L.drop p)) (by rw [tick_L]; rfl) rfl rfl rfl
            obtain ⟨w6, hw6⟩ : ∃ w6, w6 = w5.setCell ⟨g, 0, none⟩ (.slice A5 (nL + 1) c5) := ⟨_, rfl⟩
            rw [← hw6] at hto6 ⊢
            clear hw6 hto5 k5 f5
            obtain ⟨F6, ⟨vL6, l6, ms6, hd6⟩, ht6, hs6⟩ := hto6
            obtain ⟨hri6, hh6, hp6, hfa6⟩ := there_new (f := ⟨s, [], []⟩) (T := D) (T' := D.with (D.L.take p ++ ⟨s, [], []⟩ :: D.L.drop p)) HRI.out HH.out (by rw [show D.pos (PF.mk s [] []).nm = p from HP.out]; rfl)
            rw [show D.pos (PF.mk s [] []).nm = p from HP.out] at hp6
            obtain ⟨m6, hm6, hmn6, hvis6, hpl6⟩ := hd6.there hh6
            have hpf6 := hd6.fileAt hh6 hm6
            rw [hfa6] at hpf6
            have hv6 : m6.vis = [] := (congrArg PF.vis (Option.some.inj hpf6)).symm
            rw [hp6] at hm6 hpl6
            obtain ⟨gr, cap, hvL6, hnc6, hcm6, hne6, hF6, hnb6⟩ := hd6.rowAt (by omega)
            have HTW := Lib.hid (HT2.out.trans ((Touch.of HB4.out).trans ht6 (F := F) (fun k hk => .inl hk)) (fun k hk => .inl hk))
            have HSW : Hid (∀ k, F6 k → F k ∨ w.heap.size ≤ k) := fun k hk => (hs6 k hk).imp id fun hk' => Nat.le_trans (Nat.le_trans HT2.out.size HB4.out.size) hk'
            have hG6 := HG.out.touch HTW.out HSW.out
            obtain ⟨n6, hn6⟩ : ∃ n6, ms6.length = n6 := ⟨_, rfl⟩
            rw [hn6] at hvL6 hnc6 hpl6
            subst hvL6
            have k6 := hd6.c0
            have g6 := (hd6.file rfl hm6).a1
            obtain ⟨AV, cV, A2, c2, w7, hvV, hcV, hmV, hrun, hat, hfz, hfin⟩ := app_done hd6 hm6 (nV := 0) (by rw [hv6]; rfl) hnb6 hG6 (by omega)
            rw [hvV] at g6
            have g1 := hat.a1
            rw [hvV] at g1
            have f1 := hfz (p * 4 + 1)
            have hend := hfin (D.with (D.L.take p ++ ⟨s, zs, []⟩ :: D.L.drop p)) (by
              rw [← hd6.eqL]
              show _ = (D.L.take p ++ ⟨s, [], []⟩ :: D.L.drop p).set p _
              rw [set_mid (by rw [HLEN.out]; omega), ← Option.some.inj hpf6, hv6]
              rfl) rfl rfl rfl
            rw [Nat.zero_add] at hrun hend
            have HR := Lib.hid hrun
            have HEND := Lib.hid hend
            have i5 : (0 : Int) ≤ (p : Int) := by omega
            have i6 : (p : Int) < (n6 : Int) := by omega
            clear hvV hrun hfin hend hG6 hd6 hm6 hmn6 hvis6 hpf6 hfa6 hri6 hh6 hp6 hn6 hv6
            unfold maxLen at hmV
            go_wp2_with (at_builtin; refine wpList_app_run _ rfl (.tmp 71) (.tmp 72) 48 48 rfl rfl rfl HR.out ?_)
            go_ret
            exact ⟨rfl, DiskTo.after HTW.out HSW.out HEND.out⟩
          · intro KQ hK
            rw [if_pos (by rfl)]
            try go_simp
            refine (clone_any s _ (by omega)).mono ?_
            rintro e w3 ⟨rfl, hb3⟩
            replace hb3 : Below w2.heap.size w2 w3 := ((Below.refl _ _).drew).trans hb3
            try go_simp
            refine hK.out _ _ trivial (fun _ => ?_)
            clear hK KQ
            try simp only [Act.put, List.setIfInBounds_toArray, List.set_cons_zero, List.set_cons_succ]
            have k3 : w3.cell? ⟨g, 0, none⟩ = some (.slice AL nL cL) := (hb3.cell (p := ⟨g, 0, none⟩) (HD2.out.lt _ HD2.out.here)).trans k0
            refine ytake_8 (v := ?vv10) (by kernel_rfl) (by kernel_rfl) (by kernel_rfl) (fun _ _ _ h => h) (Or.inl ⟨by rfl, ?hy10⟩) trivial ?_
            case hy10 =>
              intro wX hSw
              go_simp
              try with_reducible rfl
            try simp only [Act.put, List.setIfInBounds_toArray, List.set_cons_zero, List.set_cons_succ]
            refine yready_4_9 (by kernel_rfl) ?_ ?_
            · intro KQ hK
              rw [if_pos (by rfl)]
              go_simp
              refine hK.out _ _ trivial (fun _ => ?_)
              clear hK KQ
              try simp only [Act.put, List.setIfInBounds_toArray, List.set_cons_zero, List.set_cons_succ]
              refine yready_9 (by kernel_rfl) ?_
              intro KQ hK
              rw [if_pos (by rfl)]
              go_simp
              refine hK.out _ _ trivial (fun _ => ?_)
              clear hK KQ
              try simp only [Act.put, List.setIfInBounds_toArray, List.set_cons_zero, List.set_cons_succ]
              obtain ⟨w4, hw4⟩ : ∃ w4, w4 = w3.alloc (.cells #[.string s, .slice none 0 0, .slice none 0 0, .int .i64 0] 82) := ⟨_, rfl⟩
              have hb4 : Below w3.heap.size w3 w4 := by rw [hw4]; exact (Below.refl _ _).alloc (Nat.le_refl _) _
              have hgx : w4.heap[w3.heap.size]? = some (.cells ([.string s, .slice none 0 0, .slice none 0 0, .int .i64 0] : List Value).toArray 82 (0, 0)) := by rw [hw4]; exact heap_alloc_new w3 _
              rw [← hw4]
              clear hw4
              have k4 : w4.cell? ⟨g, 0, none⟩ = some (.slice AL nL cL) := (hb4.cell (p := ⟨g, 0, none⟩) (Nat.lt_of_lt_of_le (HD2.out.lt _ HD2.out.here) hb3.size)).trans k3
              have hd4 := HD2.out.below (hb3.trans (hb4.mono hb3.size))
              have hgF : ¬ F w3.heap.size := fun hf => absurd (HD2.out.lt _ hf) (Nat.not_lt.2 hb3.size)
              have hins := ins_file (m := ⟨s, [], [], .slice none 0 0, .slice none 0 0, 0⟩) hd4 (by rw [HNL.out]; omega) (emptyFile w4 s hn) (fun k hk => by simp [MF.blks, Value.ownBlock] at hk) (by simpa [MF.blks, Value.ownBlock] using hd4.ndF) (by rw [tick_has]; exact HH.out) hgx hgF
              rw [tick_pos, HP.out] at hins
              have HB4 := Lib.hid (hb3.trans (hb4.mono hb3.size))
              clear hd4 hgF hgx hb3 hb4
              refine yready_10 (by kernel_rfl) ?_
              intro KQ hK
              rw [if_pos (by rfl)]
              try go_simp
              refine hins.mono ?_
              rintro e w5 ⟨A5, c5, rfl, k5, f5, hto5⟩
              try go_simp
              refine hK.out _ _ trivial (fun _ => ?_)
              clear hK KQ
              try simp only [Act.put, List.setIfInBounds_toArray, List.set_cons_zero, List.set_cons_succ]
              refine ytake_11 (v := ?vv7) (by kernel_rfl) (by kernel_rfl) (by kernel_rfl) (fun _ _ _ h => h) (Or.inl ⟨by rfl, ?hy7⟩) trivial ?_
              case hy7 =>
                intro wX hSw
                go_simp
                try with_reducible rfl
              try simp only [Act.put, List.setIfInBounds_toArray, List.set_cons_zero, List.set_cons_succ]
              refine ytake_12 (v := ?vv8) (by kernel_rfl) (by kernel_rfl) (by kernel_rfl) (fun _ _ _ h => h) (Or.inl ⟨by rfl, ?hy8⟩) trivial ?_
              case hy8 =>
                intro wX hSw
                go_simp
                try with_reducible rfl
              try simp only [Act.put, List.setIfInBounds_toArray, List.set_cons_zero, List.set_cons_succ]
              refine yready_13 (by kernel_rfl) ?_
              intro KQ hK
              rw [if_pos (by rfl)]
              go_simp
              refine hK.out _ _ trivial (fun _ => ?_)
              clear hK KQ
              try simp only [Act.put, List.setIfInBounds_toArray, List.set_cons_zero, List.set_cons_succ]
              refine wpAnyH_done (by kernel_rfl) ?_ _
              have hto6 := hto5 (D.with (D.L.take p ++ ⟨s, [], []⟩ :: D.L.drop p)) (by rw [tick_L]; rfl) rfl rfl rfl
              obtain ⟨w6, hw6⟩ : ∃ w6, w6 = w5.setCell ⟨g, 0, none⟩ (.slice A5 (nL + 1) c5) := ⟨_, rfl⟩
              rw [← hw6] at hto6 ⊢
              clear hw6 hto5 k5 f5
              obtain ⟨F6, ⟨vL6, l6, ms6, hd6⟩, ht6, hs6⟩ := hto6
              obtain ⟨hri6, hh6, hp6, hfa6⟩ := there_new (f := ⟨s, [], []⟩) (T := D) (T' := D.with (D.L.take p ++ ⟨s, [], []⟩ :: D.L.drop p)) HRI.out HH.out (by rw [show D.pos (PF.mk s [] []).nm = p from HP.out]; rfl)
              rw [show D.pos (PF.mk s [] []).nm = p from HP.out] at hp6
              obtain ⟨m6, hm6, hmn6, hvis6, hpl6⟩ := hd6.there hh6
              have hpf6 := hd6.fileAt hh6 hm6
              rw [hfa6] at hpf6
              have hv6 : m6.vis = [] := (congrArg PF.vis (Option.some.inj hpf6)).symm
              rw [hp6] at hm6 hpl6
              obtain ⟨gr, cap, hvL6, hnc6, hcm6, hne6, hF6, hnb6⟩ := hd6.rowAt (by omega)
              have HTW := Lib.hid (HT2.out.trans ((Touch.of HB4.out).trans ht6 (F := F) (fun k hk => .inl hk)) (fun k hk => .inl hk))
              have HSW : Hid (∀ k, F6 k → F k ∨ w.heap.size ≤ k) := fun k hk => (hs6 k hk).imp id fun hk' => Nat.le_trans (Nat.le_trans HT2.out.size HB4.out.size) hk'
              have hG6 := HG.out.touch HTW.out HSW.out
              obtain ⟨n6, hn6⟩ : ∃ n6, ms6.length = n6 := ⟨_, rfl⟩
              rw [hn6] at hvL6 hnc6 hpl6
              subst hvL6
              have k6 := hd6.c0
              have g6 := (hd6.file rfl hm6).a1
              obtain ⟨AV, cV, A2, c2, w7, hvV, hcV, hmV, hrun, hat, hfz, hfin⟩ := app_done hd6 hm6 (nV := 0) (by rw [hv6]; rfl) hnb6 hG6 (by omega)
              rw [hvV] at g6
              have g1 := hat.a1
              rw [hvV] at g1
              have f1 := hfz (p * 4 + 1)
              have hend := hfin (D.with (D.L.take p ++ ⟨s, zs, []⟩ :: D.L.drop p)) (by
                rw [← hd6.eqL]
                show _ = (D.L.take p ++ ⟨s, [], []⟩ :: D.L.drop p).set p _
                rw [set_mid (by rw [HLEN.out]; omega), ← Option.some.inj hpf6, hv6]
                rfl) rfl rfl rfl
              rw [Nat.zero_add] at hrun hend
              have HR := Lib.hid hrun
              have HEND := Lib.hid hend
              have i5 : (0 : Int) ≤ (p : Int) := by omega
              have i6 : (p : Int) < (n6 : Int) := by omega
              clear hvV hrun hfin hend hG6 hd6 hm6 hmn6 hvis6 hpf6 hfa6 hri6 hh6 hp6 hn6 hv6
              unfold maxLen at hmV
              go_wp2_with (at_builtin; refine wpList_app_run _ rfl (.tmp 71) (.tmp 72) 48 48 rfl rfl rfl HR.out ?_)
              go_ret
              exact ⟨rfl, DiskTo.after HTW.out HSW.out HEND.out⟩
            · intro KQ hK
              rw [if_pos (by rfl)]
              go_simp
              refine hK.out _ _ trivial (fun _ => ?_)
              clear hK KQ
              try simp only [Act.put, List.setIfInBounds_toArray, List.set_cons_zero, List.set_cons_succ]
              obtain ⟨w4, hw4⟩ : ∃ w4, w4 = w3.alloc (.cells #[.string s, .slice none 0 0, .slice none 0 0, .int .i64 0] 82) := ⟨_, rfl⟩
              have hb4 : Below w3.heap.size w3 w4 := by rw [hw4]; exact (Below.refl _ _).alloc (Nat.le_refl _) _
              have hgx : w4.heap[w3.heap.size]? = some (.cells ([.string s, .slice none 0 0, .slice none 0 0, .int .i64 0] : List Value).toArray 82 (0, 0)) := by rw [hw4]; exact heap_alloc_new w3 _
              rw [← hw4]
              clear hw4
              have k4 : w4.cell? ⟨g, 0, none⟩ = some (.slice AL nL cL) := (hb4.cell (p := ⟨g, 0, none⟩) (Nat.lt_of_lt_of_le (HD2.out.lt _ HD2.out.here) hb3.size)).trans k3
              refine yready_4 (by kernel_rfl) ?_
              intro KQ hK
              rw [if_pos (by rfl)]
              go_simp
              refine hK.out _ _ trivial (fun _ => ?_)
              clear hK KQ
              try simp only [Act.put, List.setIfInBounds_toArray, List.set_cons_zero, List.set_cons_succ]
              have hd4 := HD2.out.below (hb3.trans (hb4.mono hb3.size))
              have hgF : ¬ F w3.heap.size := fun hf => absurd (HD2.out.lt _ hf) (Nat.not_lt.2 hb3.size)
              have hins := ins_file (m := ⟨s, [], [], .slice none 0 0, .slice none 0 0, 0⟩) hd4 (by rw [HNL.out]; omega) (emptyFile w4 s hn) (fun k hk => by simp [MF.blks, Value.ownBlock] at hk) (by simpa [MF.blks, Value.ownBlock] using hd4.ndF) (by rw [tick_has]; exact HH.out) hgx hgF
              rw [tick_pos, HP.out] at hins
              have HB4 := Lib.hid (hb3.trans (hb4.mono hb3.size))
              clear hd4 hgF hgx hb3 hb4
              refine yready_10 (by kernel_rfl) ?_
              intro KQ hK
              rw [if_pos (by rfl)]
              try go_simp
              refine hins.mono ?_
              rintro e w5 ⟨A5, c5, rfl, k5, f5, hto5⟩
              try go_simp
              refine hK.out _ _ trivial (fun _ => ?_)
              clear hK KQ
              try simp only [Act.put, List.setIfInBounds_toArray, List.set_cons_zero, List.set_cons_succ]
              refine ytake_11 (v := ?vv7) (by kernel_rfl) (by kernel_rfl) (by kernel_rfl) (fun _ _ _ h => h) (Or.inl ⟨by rfl, ?hy7⟩) trivial ?_
              case hy7 =>
                intro wX hSw
                go_simp
                try with_reducible rfl
              try simp only [Act.put, List.setIfInBounds_toArray, List.set_cons_zero, List.set_cons_succ]
              refine ytake_12 (v := ?vv8) (by kernel_rfl) (by kernel_rfl) (by kernel_rfl) (fun _ _ _ h => h) (Or.inl ⟨by rfl, ?hy8⟩) trivial ?_
              case hy8 =>
                intro wX hSw
                go_simp
                try with_reducible rfl
              try simp only [Act.put, List.setIfInBounds_toArray, List.set_cons_zero, List.set_cons_succ]
              refine yready_13 (by kernel_rfl) ?_
              intro KQ hK
              rw [if_pos (by rfl)]
              go_simp
              refine hK.out _ _ trivial (fun _ => ?_)
              clear hK KQ
              try simp only [Act.put, List.setIfInBounds_toArray, List.set_cons_zero, List.set_cons_succ]
              refine wpAnyH_done (by kernel_rfl) ?_ _
              have hto6 := hto5 (D.with (D.L.take p ++ ⟨s, [], []⟩ :: D.L.drop p)) (by rw [tick_L]; rfl) rfl rfl rfl
              obtain ⟨w6, hw6⟩ : ∃ w6, w6 = w5.setCell ⟨g, 0, none⟩ (.slice A5 (nL + 1) c5) := ⟨_, rfl⟩
              rw [← hw6] at hto6 ⊢
              clear hw6 hto5 k5 f5
              obtain ⟨F6, ⟨vL6, l6, ms6, hd6⟩, ht6, hs6⟩ := hto6
              obtain ⟨hri6, hh6, hp6, hfa6⟩ := there_new (f := ⟨s, [], []⟩) (T := D) (T' := D.with (D.L.take p ++ ⟨s, [], []⟩ :: D.L.drop p)) HRI.out HH.out (by rw [show D.pos (PF.mk s [] []).nm = p from HP.out]; rfl)
              rw [show D.pos (PF.mk s [] []).nm = p from HP.out] at hp6
              obtain ⟨m6, hm6, hmn6, hvis6, hpl6⟩ := hd6.there hh6
              have hpf6 := hd6.fileAt hh6 hm6
              rw [hfa6] at hpf6
              have hv6 : m6.vis = [] := (congrArg PF.vis (Option.some.inj hpf6)).symm
              rw [hp6] at hm6 hpl6
              obtain ⟨gr, cap, hvL6, hnc6, hcm6, hne6, hF6, hnb6⟩ := hd6.rowAt (by omega)
              have HTW := Lib.hid (HT2.out.trans ((Touch.of HB4.out).trans ht6 (F := F) (fun k hk => .inl hk)) (fun k hk => .inl hk))
              have HSW : Hid (∀ k, F6 k → F k ∨ w.heap.size ≤ k) := fun k hk => (hs6 k hk).imp id fun hk' => Nat.le_trans (Nat.le_trans HT2.out.size HB4.out.size) hk'
              have hG6 := HG.out.touch HTW.out HSW.out
              obtain ⟨n6, hn6⟩ : ∃ n6, ms6.length = n6 := ⟨_, rfl⟩
              rw [hn6] at hvL6 hnc6 hpl6
              subst hvL6
              have k6 := hd6.c0
              have g6 := (hd6.file rfl hm6).a1
              obtain ⟨AV, cV, A2, c2, w7, hvV, hcV, hmV, hrun, hat, hfz, hfin⟩ := app_done hd6 hm6 (nV := 0) (by rw [hv6]; rfl) hnb6 hG6 (by omega)
              rw [hvV] at g6
              have g1 := hat.a1
              rw [hvV] at g1
              have f1 := hfz (p * 4 + 1)
              have hend := hfin (D.with (D.L.take p ++ ⟨s, zs, []⟩ :: D.L.drop p)) (by
                rw [← hd6.eqL]
                show _ = (D.L.take p ++ ⟨s, [], []⟩ :: D.L.drop p).set p _
                rw [set_mid (by rw [HLEN.out]; omega), ← Option.some.inj hpf6, hv6]
                rfl) rfl rfl rfl
              rw [Nat.zero_add] at hrun hend
              have HR := Lib.hid hrun
              have HEND := Lib.hid hend
              have i5 : (0 : Int) ≤ (p : Int) := by omega
              have i6 : (p : Int) < (n6 : Int) := by omega
              clear hvV hrun hfin hend hG6 hd6 hm6 hmn6 hvis6 hpf6 hfa6 hri6 hh6 hp6 hn6 hv6
              unfold maxLen at hmV
              go_wp2_with (at_builtin; refine wpList_app_run _ rfl (.tmp 71) (.tmp 72) 48 48 rfl rfl rfl HR.out ?_)
              go_ret
              exact ⟨rfl, DiskTo.after HTW.out HSW.out HEND.out⟩

end Go.Proofs.Ytaccmjgnggepjaa
/-
  Package disk: put, Rename.
-/
namespace Go.Proofs.Ytaccmjgnggepjaa
open Go.RowKit

def putL (L : List PF) (f : PF) : List PF := if hasN (namesF L) f.nm = true then L.set (posN (namesF L) f.nm) f else L.take (posN (namesF L) f.nm) ++ f :: L.drop (posN (namesF L) f.nm)
def dRename (D : PD) (a b : ByteArray) : PD × Int := if okName b = false then (D, 1) else dOpen D a fun f => (D.with (putL (D.L.take (D.pos a) ++ D.L.drop (D.pos a + 1)) { f with nm := b }), 0)

theorem flat_set {ms : List MF} {p : Nat} (hp : p < ms.length) {m : MF} (h : (m.blks ++ ms.flatMap MF.blks).Nodup) : ((ms.set p m).flatMap MF.blks).Nodup := by
  have e : ms.set p m = ms.take p ++ m :: ms.drop (p + 1) := by rw [List.set_eq_take_append_cons_drop, if_pos hp]
  have h1 : (ms.take p ++ m :: ms.drop (p + 1)).Perm (m :: (ms.take p ++ ms.drop (p + 1))) := List.perm_middle
  have h2 := h1.flatMap_right MF.blks
  rw [List.flatMap_cons] at h2
  rw [e]
  refine h2.nodup_iff.2 (h.sublist ((List.Sublist.refl _).append (flat_sub (erase_sub ms p))))

section
variable {w w1 w2 w4 w' w'' : World} {g : Nat} {F F1 F' : Nat → Prop} {D D' T T' : PD} {vL vL' v2 : Value} {l l' : Int} {ms ms' ms2 : List MF} {s : ByteArray} {m m' : MF} {i gx gr nL cap p : Nat} {f : PF}
/-- its row has turned within its block -/
theorem DiskIn.rowIn (h : DiskIn w1 g F T vL l ms) (hg : w1.grownBy w2 vL.ownBlock) (hrow : w2.ownsRow 0 82 4 v2 ms2.length (cellsD ms2)) (hv2 : v2.ownBlock = vL.ownBlock)
    (hsub : ms2.Sublist ms) (hL : T'.L = ms2.map MF.pf) (hr : RiseN (namesF T'.L)) (hc : T'.calls = T.calls) (hl : T'.left = T.left) (ho : T'.off = T.off) : DiskIn (w2.setCell ⟨g, 0, none⟩ v2) g F T' v2 l ms2 := by
  have hgl : g < w1.heap.size := h.lt _ h.here
  have hbg : w2.heap[g]? = w1.heap[g]? := hg.block g hgl (fun e => h.rowNe e.symm)
  have hvg : v2.ownBlock ≠ some g := by rw [hv2]; exact h.rowNe
  have hkeep : ∀ k, k ≠ g → (w2.setCell ⟨g, 0, none⟩ v2).heap[k]? = w2.heap[k]? := fun k hk => heap_setCell_other w2 ⟨g, 0, none⟩ k v2 hk
  have hsize : w1.heap.size ≤ (w2.setCell ⟨g, 0, none⟩ v2).heap.size := by simpa using hg.size
  have hblk : ∀ k ∈ dblks g v2 ms2, k ∈ dblks g vL ms := by
    intro k hk
    simp only [dblks, List.mem_cons, List.mem_append, List.mem_flatMap, Option.mem_toList] at hk ⊢
    rcases hk with hk | hk | ⟨x, hx, hk⟩
    · exact .inl hk
    · exact .inr (.inl (by rw [← hv2]; exact hk))
    · exact .inr (.inr ⟨x, hsub.subset hx, hk⟩)
  exact
    { blk := by rw [hc, ho]; exact heap_setCell_same _ g 0 _ _ _ (hbg.trans h.blk)
      row := own_kept hrow fun k hk _ => hkeep k (fun e => hvg (by rw [hk, e]))
      els := fun x hx => (h.els x (hsub.subset hx)).kept fun k hk => by
        obtain ⟨h1, h2⟩ := h.apart (hsub.subset hx) hk
        rw [hkeep k h1]
        exact hg.block k (h.lt _ (h.elF (hsub.subset hx) hk)) (fun e => h2 e.symm)
      nd := by
        refine h.nd.sublist ?_
        simp only [dblks]
        rw [hv2]
        exact ((List.Sublist.refl _).append (flat_sub hsub)).cons_cons g
      inF := fun k hk => h.inF k (hblk k hk)
      lt := fun k hk => Nat.lt_of_lt_of_le (h.lt k hk) hsize
      eqL := hL
      rise := hr
      few := Nat.le_trans hsub.length_le h.few
      okl := by rw [ho, hl]; exact h.okl
      lr := h.lr }

/-- another file stands in a file's place -/
theorem DiskIn.fileIn (h : DiskIn w1 g F T (.slice (some ⟨gr, 0, none⟩) nL cap) l ms) (hp : p < ms.length) (hf : FileIn w1 m) (hb : ∀ k ∈ m.blks, F k ∧ k ≠ g ∧ (Value.slice (some ⟨gr, 0, none⟩) nL cap).ownBlock ≠ some k) (hnd : (m.blks ++ ms.flatMap MF.blks).Nodup)
    (ht : Touch (fun k => k = gr) w1 w2) (hrow : w2.ownsRow 0 82 4 (.slice (some ⟨gr, 0, none⟩) nL cap) ms.length (cellsD (ms.set p m))) (hL : T'.L = (ms.map MF.pf).set p m.pf) (hr : RiseN (namesF T'.L)) (hc : T'.calls = T.calls) (hl : T'.left = T.left) (ho : T'.off = T.off) : DiskTo g F T' w1 w2 := by
  have hgr : F gr := h.rowF rfl
  have hne : gr ≠ g := fun e => h.rowNe (by rw [← e]; rfl)
  have hel : ∀ x ∈ ms.set p m, FileIn w1 x ∧ ∀ k ∈ x.blks, F k ∧ k ≠ g ∧ k ≠ gr := by
    intro x hx
    rcases List.mem_or_eq_of_mem_set hx with hx | rfl
    · exact ⟨h.els x hx, fun k hk => ⟨h.elF hx hk, (h.apart hx hk).1, fun e => (h.apart hx hk).2 (by rw [e]; rfl)⟩⟩
    · exact ⟨hf, fun k hk => ⟨(hb k hk).1, (hb k hk).2.1, fun e => (hb k hk).2.2 (by rw [e]; rfl)⟩⟩
  have htF : Touch F w1 w2 := ht.mono fun k hk => by rw [hk]; exact hgr
  refine DiskTo.make (vL' := .slice (some ⟨gr, 0, none⟩) nL cap) (l' := l) (ms' := ms.set p m) htF ?_ ?_ ?_ ?_ ?_ (by rw [hL, List.map_set]) hr (by rw [List.length_set]; exact h.few) (by rw [ho, hl]; exact h.okl) h.lr
  · rw [hc, ho]
    exact (ht.block g (h.lt _ h.here) (fun e => hne e.symm)).trans h.blk
  · rw [List.length_set]; exact hrow
  · intro x hx
    obtain ⟨h1, h2⟩ := hel x hx
    exact h1.kept fun k hk => ht.block k (h.lt _ (h2 k hk).1) (h2 k hk).2.2
  · simp only [dblks, List.nodup_cons, List.nodup_append, List.mem_append, List.mem_flatMap, Option.mem_toList, Value.ownBlock, Option.some.injEq]
    refine ⟨?_, by simp, flat_set hp hnd, ?_⟩
    · rintro (e | ⟨x, hx, hk⟩)
      · exact hne e
      · exact ((hel x hx).2 g hk).2.1 rfl
    · rintro a rfl b ⟨x, hx, hk⟩ rfl
      exact ((hel x hx).2 _ hk).2.2 rfl
  · intro k hk
    simp only [dblks, List.mem_cons, List.mem_append, List.mem_flatMap, Option.mem_toList, Value.ownBlock, Option.some.injEq] at hk
    rcases hk with rfl | rfl | ⟨x, hx, hk⟩
    · exact .inl h.here
    · exact .inl hgr
    · exact .inl ((hel x hx).2 k hk).1
end

theorem cellsD_all {ms : List MF} {i : Nat} (hi : i < ms.length) (m : MF) : ((((cellsD ms).set (i * 4) (.string m.nm)).set (i * 4 + 1) m.vV).set (i * 4 + 2) m.dV).set (i * 4 + 3) (.int .i64 m.same) = cellsD (ms.set i m) := by
  have e : cellsD ms = cellsD (ms.take i) ++ (ms[i].cells ++ cellsD (ms.drop (i + 1))) := by
    have h1 : ms = ms.take i ++ ms[i] :: ms.drop (i + 1) := by
      have h2 := List.take_append_drop i ms
      rw [List.drop_eq_getElem_cons hi] at h2
      exact h2.symm
    conv => lhs; rw [h1]
    rw [cellsD_append]
    rfl
  have hl : (cellsD (ms.take i)).length = i * 4 := by rw [cellsD_length, List.length_take]; omega
  rw [cellsD_set hi, cellsD_take, cellsD_drop, e]
  rw [List.set_append_right _ _ (by omega), List.set_append_right _ _ (by omega), List.set_append_right _ _ (by omega), List.set_append_right _ _ (by omega), hl]
  congr 1
  rw [show i * 4 - i * 4 = 0 by omega, show i * 4 + 1 - i * 4 = 1 by omega, show i * 4 + 2 - i * 4 = 2 by omega, show i * 4 + 3 - i * 4 = 3 by omega]
  simp [MF.cells]

set_option maxRecDepth 100000 in
set_option maxHeartbeats 8000000 in
theorem put_is {F : Nat → Prop} {D : PD} {vL : Value} {l : Int} {ms : List MF} {m : MF} (g : Nat) (w : World) (h : DiskIn w g F D vL l ms) (hfew : ms.length < 16) (hf : FileIn w m) (hb : ∀ k ∈ m.blks, F k ∧ k ≠ g ∧ vL.ownBlock ≠ some k) (hnd : (m.blks ++ ms.flatMap MF.blks).Nodup) :
    Calls Try.prog 90 #[.pointer (some ⟨g, 0, none⟩), .agg #[.string m.nm, m.vV, m.dV, .int .i64 m.same]] w fun e w' => e = .returned (.tuple #[]) ∧ ∀ T' : PD, T'.L = putL D.L m.pf → T'.calls = D.calls → T'.left = D.left → T'.off = D.off → DiskTo g F T' w w' := by
  obtain ⟨AV, nV, cV, AD, nD, cD, hvV, hdV⟩ := hf.vals
  obtain ⟨w1, hw1⟩ : ∃ w1, w1 = w.alloc (.cells #[.string m.nm, .slice AV nV cV, .slice AD nD cD, .int .i64 m.same] 82) := ⟨_, rfl⟩
  have hb1 : Below w.heap.size w w1 := by rw [hw1]; exact (Below.refl _ _).alloc (Nat.le_refl _) _
  obtain ⟨gb, hgb⟩ : ∃ gb, gb = w.heap.size := ⟨_, rfl⟩
  have hbx : ∀ o, w1.cell? ⟨gb, o, none⟩ = #[.string m.nm, .slice AV nV cV, .slice AD nD cD, .int .i64 m.same][o]? := fun o => by rw [hw1, hgb, World.cell?_alloc_at _ _ _ _ rfl]
  have hgl1 : gb < w1.heap.size := by rw [hw1, hgb]; simp
  have HBX := Lib.hid hbx
  have HB1 := Lib.hid hb1
  have HD1 := Lib.hid (h.below hb1)
  have HF1 := Lib.hid (hf.kept fun k hk => hb1.block k (h.lt _ (hb k hk).1))
  have HBB := Lib.hid hb
  have HND := Lib.hid hnd
  have HVV := Lib.hid hvV
  have HDV := Lib.hid hdV
  rw [hvV, hdV]
  obtain ⟨p, hp⟩ : ∃ p, D.pos m.nm = p := ⟨_, rfl⟩
  have HP := Lib.hid hp
  have HW := Lib.hid hw1
  clear h hf hb hnd hvV hdV hb1 hbx hp hw1
  cases hh : D.has m.nm with
  | true =>
    have hput : putL D.L m.pf = D.L.set p m.pf := by rw [putL, if_pos (show hasN (namesF D.L) m.pf.nm = true from hh)]; rw [show posN (namesF D.L) m.pf.nm = p from HP.out]
    have HPUT := Lib.hid hput
    have HH := Lib.hid hh
    clear hput hh
    go_enter Try.func90, Try.ntmps90
    go_upto_region 1 with fail
    rw [← HW.out, ← hgb]
    clear hgb
    have q0 := HBX.out 0
    simp only [List.getElem?_toArray, List.getElem?_cons_zero] at q0
    go_wp2_with fail
    refine (find_any g m.nm _ HD1.out).mono ?_
    rintro e w2 ⟨he, hb2⟩
    rw [HH.out, HP.out] at he
    subst he
    have hd2 := HD1.out.below hb2
    have hbx2 : ∀ o, w2.cell? ⟨gb, o, none⟩ = #[.string m.nm, .slice AV nV cV, .slice AD nD cD, .int .i64 m.same][o]? := fun o => (hb2.cell (p := ⟨gb, o, none⟩) hgl1).trans (HBX.out o)
    obtain ⟨m1, hm1, hmn1, _, hpl1⟩ := hd2.there HH.out
    rw [HP.out] at hm1 hpl1
    obtain ⟨gr, cap, hvL, hnc, hcm, hne, hF, hnb⟩ := hd2.rowAt (by omega)
    obtain ⟨nL, hnL⟩ : ∃ nL, ms.length = nL := ⟨_, rfl⟩
    rw [hnL] at hvL hnc
    have hpn : p < nL := by omega
    subst hvL
    have k0 := hd2.c0
    have kf := hd2.file rfl hm1
    obtain ⟨AV1, nV1, cV1, AD1, nD1, cD1, hvV1, hdV1⟩ := (hd2.els m1 (List.mem_of_getElem? hm1)).vals
    have k1 := kf.a0
    have k2 := kf.a1
    have k3 := kf.a2
    have k4 := kf.a3
    rw [hvV1] at k2
    rw [hdV1] at k3
    have z0 := hd2.rowfz rfl (p * 4)
    have z1 := hd2.rowfz rfl (p * 4 + 1)
    have z2 := hd2.rowfz rfl (p * 4 + 2)
    have z3 := hd2.rowfz rfl (p * 4 + 3)
    have b0 := hbx2 0
    have b1 := hbx2 1
    have b2 := hbx2 2
    have b3 := hbx2 3
    simp only [List.getElem?_toArray, List.getElem?_cons_zero, List.getElem?_cons_succ] at b0 b1 b2 b3
    have HD2 := Lib.hid hd2
    have HB2 := Lib.hid hb2
    have HNL := Lib.hid hnL
    have i0 : (0 : Int) ≤ (p : Int) := by omega
    have i1 : (p : Int) < (nL : Int) := by omega
    clear hd2 hb2 hbx2 hm1 kf hvV1 hdV1 hnL q0 hmn1 hnb
    go_wp2_with fail
    go_still_tail 7, (by kernel_rfl)
    change wpList _ _ _ _ _ w2.drew
    go_wp2_with fail
    refine bodyPost_ret (v := .tuple #[]) (results_none rfl _ _ _) rfl ⟨rfl, fun T' hL hc hl ho => ?_⟩
    rw [HPUT.out] at hL
    have hrow := HD2.out.row
    rw [HNL.out] at hrow
    have s0 := (hrow.stored (p * 4) (.string m.nm)).1
    have s1 := (s0.stored (p * 4 + 1) (.slice AV nV cV)).1
    have s2 := (s1.stored (p * 4 + 2) (.slice AD nD cD)).1
    have s3 := (s2.stored (p * 4 + 3) (.int .i64 (m.same : Int))).1
    have hall := cellsD_all (ms := ms) (i := p) (by rw [HNL.out]; exact hpn) m
    rw [HVV.out, HDV.out] at hall
    rw [hall] at s3
    have ht : Touch (fun k => k = gr) w2 (((((w2.setCell ⟨gr, p * 4, none⟩ (.string m.nm)).setCell ⟨gr, p * 4 + 1, none⟩ (.slice AV nV cV)).setCell ⟨gr, p * 4 + 2, none⟩ (.slice AD nD cD)).setCell ⟨gr, p * 4 + 3, none⟩ (.int .i64 (m.same : Int))).drew) := by
      have h0 := ((((Touch.refl (fun k => k = gr) w2).set (b := gr) (o := p * 4) (.inl rfl) (.string m.nm)).set (b := gr) (o := p * 4 + 1) (.inl rfl) (.slice AV nV cV)).set (b := gr) (o := p * 4 + 2) (.inl rfl) (.slice AD nD cD)).set (b := gr) (o := p * 4 + 3) (.inl rfl) (.int .i64 (m.same : Int))
      exact ⟨h0.os, h0.tape, h0.output, h0.size, h0.block⟩
    have hpp : (namesF D.L).set p m.nm = namesF D.L := set_same (by have := hasN_at (show hasN (namesF D.L) m.nm = true from HH.out); rwa [show posN (namesF D.L) m.nm = p from HP.out] at this)
    refine DiskTo.behind (Touch.of (HB1.out.trans (HB2.out.mono HB1.out.size))) (HD2.out.fileIn (T' := T') (by rw [HNL.out]; exact hpn) (HF1.out.kept fun k hk => HB2.out.block k (HD1.out.lt _ (HBB.out k hk).1)) HBB.out HND.out ht (by rw [HNL.out]; exact s3) (by rw [hL, HD2.out.eqL]) ?_ hc hl ho)
    rw [hL, namesF, List.map_set]
    show RiseN ((namesF D.L).set p m.nm)
    rw [hpp]
    exact HD2.out.rise
  | false =>
    have hput : putL D.L m.pf = D.L.take p ++ m.pf :: D.L.drop p := by rw [putL, if_neg (show ¬ hasN (namesF D.L) m.pf.nm = true by rw [show hasN (namesF D.L) m.pf.nm = false from hh]; decide)]; rw [show posN (namesF D.L) m.pf.nm = p from HP.out]
    have HPUT := Lib.hid hput
    have HH := Lib.hid hh
    clear hput hh
    go_enter Try.func90, Try.ntmps90
    go_upto_region 1 with fail
    rw [← HW.out, ← hgb]
    clear hgb
    have q0 := HBX.out 0
    simp only [List.getElem?_toArray, List.getElem?_cons_zero] at q0
    go_wp2_with fail
    refine (find_any g m.nm _ HD1.out).mono ?_
    rintro e w2 ⟨he, hb2⟩
    rw [HH.out, HP.out] at he
    subst he
    obtain ⟨w3, hw3⟩ : ∃ w3, w3 = w2.drew := ⟨_, rfl⟩
    have hb23 : Below w1.heap.size w1 w3 := by rw [hw3]; exact hb2.trans ((Below.refl w2.heap.size w2).drew.mono hb2.size)
    have hd3 := HD1.out.below hb23
    have hbx3 : ∀ o, w3.cell? ⟨gb, o, none⟩ = #[.string m.nm, .slice AV nV cV, .slice AD nD cD, .int .i64 m.same][o]? := fun o => (hb23.cell (p := ⟨gb, o, none⟩) hgl1).trans (HBX.out o)
    obtain ⟨AL, cL, hvL, hnc, hcm, _⟩ := hd3.slice rfl
    obtain ⟨nL, hnL⟩ : ∃ nL, ms.length = nL := ⟨_, rfl⟩
    rw [hnL] at hvL hnc
    subst hvL
    have k0 := hd3.c0
    have b0 := hbx3 0
    have b1 := hbx3 1
    have b2 := hbx3 2
    have b3 := hbx3 3
    simp only [List.getElem?_toArray, List.getElem?_cons_zero, List.getElem?_cons_succ] at b0 b1 b2 b3
    have HD3 := Lib.hid hd3
    have HB3 := Lib.hid hb23
    have HNL := Lib.hid hnL
    have HF3 := Lib.hid (HF1.out.kept fun k hk => hb23.block k (HD1.out.lt _ (HBB.out k hk).1))
    have HW3 := Lib.hid hw3
    clear hd3 hb2 hb23 hbx3 hnL q0 hw3
    go_wp2_with fail
    refine wp_region_held_drew (S := fun _ => True) (by kernel_rfl) trivial (fun _ => ?_)
    rw [← HW3.out]
    refine ytake_0 (v := ?vv3) (by kernel_rfl) (by kernel_rfl) (by kernel_rfl) (fun _ _ _ h => h) (Or.inl ⟨by rfl, ?hy3⟩) trivial ?_
    case hy3 =>
      intro wX hSw
      go_simp
      try with_reducible rfl
    try simp only [Act.put, List.setIfInBounds_toArray, List.set_cons_zero, List.set_cons_succ]
    refine ytake_1 (v := ?vv4) (by kernel_rfl) (by kernel_rfl) (by kernel_rfl) (fun _ _ _ h => h) (Or.inl ⟨by rfl, ?hy4⟩) trivial ?_
    case hy4 =>
      intro wX hSw
      go_simp
      try with_reducible rfl
    try simp only [Act.put, List.setIfInBounds_toArray, List.set_cons_zero, List.set_cons_succ]
    refine ytake_2 (v := ?vv5) (by kernel_rfl) (by kernel_rfl) (by kernel_rfl) (fun _ _ _ h => h) (Or.inl ⟨by rfl, ?hy5⟩) trivial ?_
    case hy5 =>
      intro wX hSw
      go_simp
      try with_reducible rfl
    try simp only [Act.put, List.setIfInBounds_toArray, List.set_cons_zero, List.set_cons_succ]
    refine ytake_3 (v := ?vv6) (by kernel_rfl) (by kernel_rfl) (by kernel_rfl) (fun _ _ _ h => h) (Or.inl ⟨by rfl, ?hy6⟩) trivial ?_
    case hy6 =>
      intro wX hSw
      go_simp
      try with_reducible rfl
    try simp only [Act.put, List.setIfInBounds_toArray, List.set_cons_zero, List.set_cons_succ]
    refine ytake_5 (v := ?vv7) (by kernel_rfl) (by kernel_rfl) (by kernel_rfl) (fun _ _ _ h => h) (Or.inl ⟨by rfl, ?hy7⟩) trivial ?_
    case hy7 =>
      intro wX hSw
      go_simp
      try with_reducible rfl
    try simp only [Act.put, List.setIfInBounds_toArray, List.set_cons_zero, List.set_cons_succ]
    refine yready_4_6 (by kernel_rfl) ?_ ?_
    · intro KQ hK
      rw [if_pos (by rfl)]
      go_simp
      refine hK.out _ _ trivial (fun _ => ?_)
      clear hK KQ
      try simp only [Act.put, List.setIfInBounds_toArray, List.set_cons_zero, List.set_cons_succ]
      refine yready_6 (by kernel_rfl) ?_
      intro KQ hK
      rw [if_pos (by rfl)]
      go_simp
      refine hK.out _ _ trivial (fun _ => ?_)
      clear hK KQ
      try simp only [Act.put, List.setIfInBounds_toArray, List.set_cons_zero, List.set_cons_succ]
      refine yready_7 (by kernel_rfl) ?_
      intro KQ hK
      rw [if_pos (by rfl)]
      go_simp
      refine hK.out _ _ trivial (fun _ => ?_)
      clear hK KQ
      try simp only [Act.put, List.setIfInBounds_toArray, List.set_cons_zero, List.set_cons_succ]
      obtain ⟨w4, hw4⟩ : ∃ w4, w4 = w3.alloc (.cells #[.string m.nm, .slice AV nV cV, .slice AD nD cD, .int .i64 m.same] 82) := ⟨_, rfl⟩
      have hb4 : Below w3.heap.size w3 w4 := by rw [hw4]; exact (Below.refl _ _).alloc (Nat.le_refl _) _
      have hgx : w4.heap[w3.heap.size]? = some (.cells m.cells.toArray 82 (0, 0)) := by rw [hw4, show m.cells = [.string m.nm, .slice AV nV cV, .slice AD nD cD, .int .i64 m.same] by rw [MF.cells, HVV.out, HDV.out]]; exact heap_alloc_new w3 _
      rw [← hw4]
      clear hw4
      have k4 : w4.cell? ⟨g, 0, none⟩ = some (.slice AL nL cL) := (hb4.cell (p := ⟨g, 0, none⟩) (HD3.out.lt _ HD3.out.here)).trans k0
      have hd4 := HD3.out.below hb4
      have hgF : ¬ F w3.heap.size := fun hf => absurd (HD3.out.lt _ hf) (Nat.lt_irrefl _)
      have hins := ins_file (m := m) hd4 hfew (HF3.out.kept fun k hk => hb4.block k (HD3.out.lt _ (HBB.out k hk).1)) HBB.out HND.out HH.out hgx hgF
      rw [HP.out] at hins
      have HB4 := Lib.hid (HB1.out.trans ((HB3.out.trans (hb4.mono HB3.out.size)).mono HB1.out.size))
      clear hd4 hgF hgx hb4
      refine yready_8 (by kernel_rfl) ?_
      intro KQ hK
      rw [if_pos (by rfl)]
      try go_simp
      refine hins.mono ?_
      rintro e w5 ⟨A5, c5, rfl, k5, f5, hto5⟩
      try go_simp
      refine hK.out _ _ trivial (fun _ => ?_)
      clear hK KQ
      try simp only [Act.put, List.setIfInBounds_toArray, List.set_cons_zero, List.set_cons_succ]
      refine ytake_9 (v := ?vv1) (by kernel_rfl) (by kernel_rfl) (by kernel_rfl) (fun _ _ _ h => h) (Or.inl ⟨by rfl, ?hy1⟩) trivial ?_
      case hy1 =>
        intro wX hSw
        go_simp
        try with_reducible rfl
      try simp only [Act.put, List.setIfInBounds_toArray, List.set_cons_zero, List.set_cons_succ]
      refine ytake_10 (v := ?vv2) (by kernel_rfl) (by kernel_rfl) (by kernel_rfl) (fun _ _ _ h => h) (Or.inl ⟨by rfl, ?hy2⟩) trivial ?_
      case hy2 =>
        intro wX hSw
        go_simp
        try with_reducible rfl
      try simp only [Act.put, List.setIfInBounds_toArray, List.set_cons_zero, List.set_cons_succ]
      refine yready_11 (by kernel_rfl) ?_
      intro KQ hK
      rw [if_pos (by rfl)]
      go_simp
      refine hK.out _ _ trivial (fun _ => ?_)
      clear hK KQ
      try simp only [Act.put, List.setIfInBounds_toArray, List.set_cons_zero, List.set_cons_succ]
      refine wpAnyH_done (by kernel_rfl) ?_ _
      go_wp2_with fail
      go_end0
      refine ⟨rfl, fun T' hL hc hl ho => ?_⟩
      rw [HPUT.out] at hL
      exact DiskTo.behind (Touch.of HB4.out) (hto5 T' hL hc hl ho)
    · intro KQ hK
      rw [if_pos (by rfl)]
      go_simp
      refine hK.out _ _ trivial (fun _ => ?_)
      clear hK KQ
      try simp only [Act.put, List.setIfInBounds_toArray, List.set_cons_zero, List.set_cons_succ]
      refine yready_4_7 (by kernel_rfl) ?_ ?_
      · intro KQ hK
        rw [if_pos (by rfl)]
        go_simp
        refine hK.out _ _ trivial (fun _ => ?_)
        clear hK KQ
        try simp only [Act.put, List.setIfInBounds_toArray, List.set_cons_zero, List.set_cons_succ]
        refine yready_7 (by kernel_rfl) ?_
        intro KQ hK
        rw [if_pos (by rfl)]
        go_simp
        refine hK.out _ _ trivial (fun _ => ?_)
        clear hK KQ
        try simp only [Act.put, List.setIfInBounds_toArray, List.set_cons_zero, List.set_cons_succ]
        obtain ⟨w4, hw4⟩ : ∃ w4, w4 = w3.alloc (.cells #[.string m.nm, .slice AV nV cV, .slice AD nD cD, .int .i64 m.same] 82) := ⟨_, rfl⟩
        have hb4 : Below w3.heap.size w3 w4 := by rw [hw4]; exact (Below.refl _ _).alloc (Nat.le_refl _) _
        have hgx : w4.heap[w3.heap.size]? = some (.cells m.cells.toArray 82 (0, 0)) := by rw [hw4, show m.cells = [.string m.nm, .slice AV nV cV, .slice AD nD cD, .int .i64 m.same] by rw [MF.cells, HVV.out, HDV.out]]; exact heap_alloc_new w3 _
        rw [← hw4]
        clear hw4
        have k4 : w4.cell? ⟨g, 0, none⟩ = some (.slice AL nL cL) := (hb4.cell (p := ⟨g, 0, none⟩) (HD3.out.lt _ HD3.out.here)).trans k0
        have hd4 := HD3.out.below hb4
        have hgF : ¬ F w3.heap.size := fun hf => absurd (HD3.out.lt _ hf) (Nat.lt_irrefl _)
        have hins := ins_file (m := m) hd4 hfew (HF3.out.kept fun k hk => hb4.block k (HD3.out.lt _ (HBB.out k hk).1)) HBB.out HND.out HH.out hgx hgF
        rw [HP.out] at hins
        have HB4 := Lib.hid (HB1.out.trans ((HB3.out.trans (hb4.mono HB3.out.size)).mono HB1.out.size))
        clear hd4 hgF hgx hb4
        refine yready_8 (by kernel_rfl) ?_
        intro KQ hK
        rw [if_pos (by rfl)]
        try go_simp
        refine hins.mono ?_
        rintro e w5 ⟨A5, c5, rfl, k5, f5, hto5⟩
        try go_simp
        refine hK.out _ _ trivial (fun _ => ?_)
        clear hK KQ
        try simp only [Act.put, List.setIfInBounds_toArray, List.set_cons_zero, List.set_cons_succ]
        refine ytake_9 (v := ?vv1) (by kernel_rfl) (by kernel_rfl) (by kernel_rfl) (fun _ _ _ h => h) (Or.inl ⟨by rfl, ?hy1⟩) trivial ?_
        case hy1 =>
          intro wX hSw
          go_simp
          try with_reducible rfl
        try simp only [Act.put, List.setIfInBounds_toArray, List.set_cons_zero, List.set_cons_succ]
        refine ytake_10 (v := ?vv2) (by kernel_rfl) (by kernel_rfl) (by kernel_rfl) (fun _ _ _ h => h) (Or.inl ⟨by rfl, ?hy2⟩) trivial ?_
        case hy2 =>
          intro wX hSw
          go_simp
          try with_reducible rfl
        try simp only [Act.put, List.setIfInBounds_toArray, List.set_cons_zero, List.set_cons_succ]
        refine yready_11 (by kernel_rfl) ?_
        intro KQ hK
        rw [if_pos (by rfl)]
        go_simp
        refine hK.out _ _ trivial (fun _ => ?_)
        clear hK KQ
        try simp only [Act.put, List.setIfInBounds_toArray, List.set_cons_zero, List.set_cons_succ]
        refine wpAnyH_done (by kernel_rfl) ?_ _
        go_wp2_with fail
        go_end0
        refine ⟨rfl, fun T' hL hc hl ho => ?_⟩
        rw [HPUT.out] at hL
        exact DiskTo.behind (Touch.of HB4.out) (hto5 T' hL hc hl ho)
      · intro KQ hK
        rw [if_pos (by rfl)]
        go_simp
        refine hK.out _ _ trivial (fun _ => ?_)
        clear hK KQ
        try simp only [Act.put, List.setIfInBounds_toArray, List.set_cons_zero, List.set_cons_succ]
        obtain ⟨w4, hw4⟩ : ∃ w4, w4 = w3.alloc (.cells #[.string m.nm, .slice AV nV cV, .slice AD nD cD, .int .i64 m.same] 82) := ⟨_, rfl⟩
        have hb4 : Below w3.heap.size w3 w4 := by rw [hw4]; exact (Below.refl _ _).alloc (Nat.le_refl _) _
        have hgx : w4.heap[w3.heap.size]? = some (.cells m.cells.toArray 82 (0, 0)) := by rw [hw4, show m.cells = [.string m.nm, .slice AV nV cV, .slice AD nD cD, .int .i64 m.same] by rw [MF.cells, HVV.out, HDV.out]]; exact heap_alloc_new w3 _
        rw [← hw4]
        clear hw4
        have k4 : w4.cell? ⟨g, 0, none⟩ = some (.slice AL nL cL) := (hb4.cell (p := ⟨g, 0, none⟩) (HD3.out.lt _ HD3.out.here)).trans k0
        refine yready_4 (by kernel_rfl) ?_
        intro KQ hK
        rw [if_pos (by rfl)]
        go_simp
        refine hK.out _ _ trivial (fun _ => ?_)
        clear hK KQ
        try simp only [Act.put, List.setIfInBounds_toArray, List.set_cons_zero, List.set_cons_succ]
        have hd4 := HD3.out.below hb4
        have hgF : ¬ F w3.heap.size := fun hf => absurd (HD3.out.lt _ hf) (Nat.lt_irrefl _)
        have hins := ins_file (m := m) hd4 hfew (HF3.out.kept fun k hk => hb4.block k (HD3.out.lt _ (HBB.out k hk).1)) HBB.out HND.out HH.out hgx hgF
        rw [HP.out] at hins
        have HB4 := Lib.hid (HB1.out.trans ((HB3.out.trans (hb4.mono HB3.out.size)).mono HB1.out.size))
        clear hd4 hgF hgx hb4
        refine yready_8 (by kernel_rfl) ?_
        intro KQ hK
        rw [if_pos (by rfl)]
        try go_simp
        refine hins.mono ?_
        rintro e w5 ⟨A5, c5, rfl, k5, f5, hto5⟩
        try go_simp
        refine hK.out _ _ trivial (fun _ => ?_)
        clear hK KQ
        try simp only [Act.put, List.setIfInBounds_toArray, List.set_cons_zero, List.set_cons_succ]
        refine ytake_9 (v := ?vv1) (by kernel_rfl) (by kernel_rfl) (by kernel_rfl) (fun _ _ _ h => h) (Or.inl ⟨by rfl, ?hy1⟩) trivial ?_
        case hy1 =>
          intro wX hSw
          go_simp
          try with_reducible rfl
        try simp only [Act.put, List.setIfInBounds_toArray, List.set_cons_zero, List.set_cons_succ]
        refine ytake_10 (v := ?vv2) (by kernel_rfl) (by kernel_rfl) (by kernel_rfl) (fun _ _ _ h => h) (Or.inl ⟨by rfl, ?hy2⟩) trivial ?_
        case hy2 =>
          intro wX hSw
          go_simp
          try with_reducible rfl
        try simp only [Act.put, List.setIfInBounds_toArray, List.set_cons_zero, List.set_cons_succ]
        refine yready_11 (by kernel_rfl) ?_
        intro KQ hK
        rw [if_pos (by rfl)]
        go_simp
        refine hK.out _ _ trivial (fun _ => ?_)
        clear hK KQ
        try simp only [Act.put, List.setIfInBounds_toArray, List.set_cons_zero, List.set_cons_succ]
        refine wpAnyH_done (by kernel_rfl) ?_ _
        go_wp2_with fail
        go_end0
        refine ⟨rfl, fun T' hL hc hl ho => ?_⟩
        rw [HPUT.out] at hL
        exact DiskTo.behind (Touch.of HB4.out) (hto5 T' hL hc hl ho)

end Go.Proofs.Ytaccmjgnggepjaa
/-
  Package disk: Rename.
-/
namespace Go.Proofs.Ytaccmjgnggepjaa
open Go.RowKit

set_option maxRecDepth 100000 in
set_option maxHeartbeats 8000000 in
theorem rename_is {F : Nat → Prop} {D : PD} (g : Nat) (s b : ByteArray) (w : World) (h : IsDisk w g F D) (hs : s.size ≤ maxLen) (hsb : b.size ≤ maxLen) (hc : D.calls ≤ 1000000) :
    Calls Try.prog 86 #[.pointer (some ⟨g, 0, none⟩), .string s, .string b] w fun e w' => e = .returned (.int .i64 (dRename D s b).2) ∧ DiskTo g F (dRename D s b).1 w w' := by
  cases hnb0 : okName b with
  | false =>
    have hr : dRename D s b = (D, 1) := by rw [dRename, if_pos hnb0]
    rw [hr]
    have HD := Lib.hid h
    clear hr h
    go_enter Try.func86, Try.ntmps86
    go_wp2_with (go_at_call 38; refine (isName_is false _ _ hsb hnb0).mono ?_; rintro e w' ⟨rfl, rfl⟩)
    go_ret
    exact ⟨rfl, DiskTo.same HD.out⟩
  | true =>
  have hren : dRename D s b = dOpen D s fun f => (D.with (putL (D.L.take (D.pos s) ++ D.L.drop (D.pos s + 1)) { f with nm := b }), 0) := by rw [dRename, if_neg (by rw [hnb0]; decide)]
  obtain ⟨vL, l, ms, h⟩ := h
  have HD := Lib.hid h
  cases hn : okName s with
  | false =>
    have hr : dRename D s b = (D, 1) := by rw [hren, dOpen_no hn]
    rw [hr]
    clear hr h hren
    go_enter Try.func86, Try.ntmps86
    go_wp2_with (first | (go_at_call 38; refine (isName_is true _ _ hsb hnb0).mono ?_; rintro e w' ⟨rfl, rfl⟩) | (go_at_call 62; refine (open_no _ _ _ hs hn).mono ?_; rintro e w' ⟨rfl, rfl⟩))
    go_ret
    exact ⟨rfl, DiskTo.same ⟨_, _, _, HD.out⟩⟩
  | true =>
    cases hoff : D.tick.off with
    | true =>
      have hr : dRename D s b = (D.tick, 9) := by rw [hren, dOpen_off hn hoff]
      rw [hr]
      clear hr h hren
      go_enter Try.func86, Try.ntmps86
      go_wp2_with (first | (go_at_call 38; refine (isName_is true _ _ hsb hnb0).mono ?_; rintro e w' ⟨rfl, rfl⟩) | (go_at_call 62; refine (open_off _ _ _ HD.out hs hn hc hoff).mono ?_; rintro e w' ⟨rfl, hto⟩))
      go_ret
      exact ⟨rfl, hto.done HD.out.here⟩
    | false =>
      cases hh : D.has s with
      | false =>
        have hr : dRename D s b = (D.tick, 3) := by rw [hren, dOpen_none hn hoff hh]
        rw [hr]
        clear hr h hren
        go_enter Try.func86, Try.ntmps86
        go_wp2_with (first | (go_at_call 38; refine (isName_is true _ _ hsb hnb0).mono ?_; rintro e w' ⟨rfl, rfl⟩) | (go_at_call 62; refine (open_on false _ _ _ _ HD.out hs hn hc hoff hh rfl).mono ?_; rintro e w' ⟨he, hto⟩; simp only [Bool.false_eq_true, if_false] at he; subst he))
        go_ret
        exact ⟨rfl, hto.done HD.out.here⟩
      | true =>
        obtain ⟨m, hm, hmn, hvis, hpl⟩ := h.there hh
        have hfa := h.fileAt hh hm
        have hfew := h.few
        obtain ⟨p, hp⟩ : ∃ p, D.pos s = p := ⟨_, rfl⟩
        rw [hp] at hm hpl
        obtain ⟨gr, cap, hvL, hnc, hcm, hne, hF, hnb⟩ := h.rowAt (by omega)
        have hmem : m ∈ ms := List.mem_of_getElem? hm
        have hr : dRename D s b = (D.with (putL (D.L.take p ++ D.L.drop (p + 1)) { m.pf with nm := b }), 0) := by rw [hren, dOpen_yes hn hoff hfa, hp]
        rw [hr]
        obtain ⟨n, hnL⟩ : ∃ n, ms.length = n + 1 := ⟨ms.length - 1, by omega⟩
        rw [hnL] at hvL hnc
        obtain ⟨AV, nV, cV, AD, nD, cD, hvV, hdV⟩ := (h.els m hmem).vals
        have HNL := Lib.hid hnL
        have HM := Lib.hid hm
        have HMM := Lib.hid hmem
        have HP := Lib.hid hp
        have HH := Lib.hid hh
        have HVV := Lib.hid hvV
        have HDV := Lib.hid hdV
        have hpn : p ≤ n := by omega
        have hn15 : n ≤ 15 := by omega
        subst hvL
        have hbz := okName_size hnb0
        clear hr h hfa hvis hm hmem hmn hp hh hren hnb hvV hdV hnL hpl hfew
        have i0 : (0 : Int) ≤ (p : Int) := by omega
        have i1 : (p : Int) < (n : Int) + 1 := by omega
        go_enter Try.func86, Try.ntmps86
        go_wp2_with (go_at_call 38; refine (isName_is true _ _ hsb hnb0).mono ?_; rintro e w' ⟨rfl, rfl⟩)
        refine (open_on true p _ _ _ HD.out hs hn hc hoff HH.out HP.out).mono ?_
        rintro e w1 ⟨he, hto⟩
        simp only [if_true] at he
        subst he
        have HT := Lib.hid (hto.touch HD.out.here)
        obtain ⟨l1, hd1, _⟩ := hto
        have k0 := hd1.c0
        have kf := hd1.file rfl HM.out
        have k1 := kf.a0
        have k2 := kf.a1
        have k3 := kf.a2
        have k4 := kf.a3
        rw [HVV.out] at k2
        rw [HDV.out] at k3
        have HD1 := Lib.hid hd1
        clear hd1 kf
        obtain ⟨gb, hgb⟩ : ∃ gb, gb = w1.heap.size := ⟨_, rfl⟩
        obtain ⟨w2, hw2⟩ : ∃ w2, w2 = w1.alloc (.cells #[.string m.nm, .slice AV nV cV, .slice AD nD cD, .int .i64 m.same] 82) := ⟨_, rfl⟩
        have hbk2 : w2.heap[gb]? = some (.cells #[.string m.nm, .slice AV nV cV, .slice AD nD cD, .int .i64 m.same] 82 (0, 0)) := by rw [hw2, hgb]; exact heap_alloc_new w1 _
        have hb2 : Below w1.heap.size w1 w2 := by rw [hw2]; exact (Below.refl _ _).alloc (Nat.le_refl _) _
        have hbgF : ¬ F gb := fun hf => by have := HD1.out.lt _ hf; omega
        have hgb2 : gb < w2.heap.size := (Array.getElem?_eq_some_iff.1 hbk2).1
        have HW2 := Lib.hid hw2
        have HBK2 := Lib.hid hbk2
        have HB2 := Lib.hid hb2
        have HGB := Lib.hid hgb
        have HGF := Lib.hid hbgF
        go_upto_region 7 with fail
        rw [← HW2.out, ← hgb]
        clear hgb hw2 hb2 hbk2 hbgF k0 k1 k2 k3 k4
        go_wp2_with fail
        refine (clone_any b _ (by omega)).mono ?_
        rintro e w3 ⟨rfl, hb3⟩
        have hbk3 : w3.heap[gb]? = _ := (hb3.block gb hgb2).trans HBK2.out
        have q0 : w3.cell? ⟨gb, 0, none⟩ = some (.string m.nm) := cell_of_row w3 gb 0 _ _ _ hbk3
        have q1 : w3.frozen? ⟨gb, 0, none⟩ = false := frozen_of_row w3 gb 0 _ _ hbk3
        obtain ⟨w4, hw4⟩ : ∃ w4, w4 = w3.setCell ⟨gb, 0, none⟩ (.string b) := ⟨_, rfl⟩
        have hbk4 : w4.heap[gb]? = some (.cells #[.string b, .slice AV nV cV, .slice AD nD cD, .int .i64 m.same] 82 (0, 0)) := by rw [hw4]; exact heap_setCell_same w3 gb 0 _ _ _ hbk3
        have hT4 : Touch F w1 w4 := by
          rw [hw4]
          exact ((Touch.of HB2.out).then hb3).set (.inr (by rw [HGB.out]; exact Nat.le_refl _)) _
        have hk4 : ∀ k, F k → w4.heap[k]? = w1.heap[k]? := fun k hk => by
          have hkl := HD1.out.lt k hk
          have hkg : k ≠ gb := fun e => HGF.out (e ▸ hk)
          rw [hw4, heap_setCell_other w3 ⟨gb, 0, none⟩ k _ hkg, hb3.block k (Nat.lt_of_lt_of_le hkl HB2.out.size)]
          exact HB2.out.block k hkl
        have hd4 := HD1.out.kept hT4.size hk4
        have HW4 := Lib.hid hw4
        have HBK4 := Lib.hid hbk4
        have HT4 := Lib.hid hT4
        have HD4 := Lib.hid hd4
        clear hbk3 hbk4 hT4 hk4 hd4 hb3 hw4
        go_upto_region 8 with fail
        rw [← HW4.out]
        clear q0 q1
        have k0 := HD4.out.c0
        have hrow := HD4.out.row
        rw [HNL.out] at hrow
        have e1 : IntKind.i64.wrap ((p : Int) + 1) = (p : Int) + 1 := IntWalk.i64_in _ (by omega)
        go_wp2_with fail
        refine (delete_any 0 gr cap n p (cellsD ms) _ hrow hpn (by omega) (cells_one HD4.out.els)).mono ?_
        rintro e w5 ⟨rfl, hrow5, hg5⟩
        have hgl : g < w4.heap.size := HD4.out.lt _ HD4.out.here
        have k5 : w5.cell? ⟨g, 0, none⟩ = some (.slice (some ⟨gr, 0, none⟩) (n + 1) cap) := (World.cell?_of_block (a := ⟨g, 0, none⟩) (hg5.block g hgl (by simp; omega))).trans k0
        have f5 : w5.frozen? ⟨g, 0, none⟩ = false := (World.frozen?_of_block (a := ⟨g, 0, none⟩) (hg5.block g hgl (by simp; omega))).trans (HD4.out.fz 0)
        have hsub := erase_sub ms p
        have hlen : (ms.take p ++ ms.drop (p + 1)).length = n := by
          have := HNL.out
          simp only [List.length_append, List.length_take, List.length_drop]
          omega
        obtain ⟨w6, hw6⟩ : ∃ w6, w6 = w5.setCell ⟨g, 0, none⟩ (.slice (some ⟨gr, 0, none⟩) n cap) := ⟨_, rfl⟩
        have hd6 : DiskIn w6 g F (D.with (D.L.take p ++ D.L.drop (p + 1))) (.slice (some ⟨gr, 0, none⟩) n cap) l1 (ms.take p ++ ms.drop (p + 1)) := by
          rw [hw6]
          refine HD4.out.rowIn (T' := D.with (D.L.take p ++ D.L.drop (p + 1))) (ms2 := ms.take p ++ ms.drop (p + 1)) hg5 ?_ rfl hsub ?_ ?_ rfl rfl rfl
          · rw [hlen, ← cellsD_del]; exact hrow5
          · rw [map_erase, ← HD.out.eqL]; rfl
          · show RiseN (namesF (D.L.take p ++ D.L.drop (p + 1)))
            rw [names_erase]
            exact rise_erase HD.out.rise p
        have hblk : ∀ k, k ≠ g → k ≠ gr → k < w4.heap.size → w6.heap[k]? = w4.heap[k]? := fun k h1 h2 h3 => by
          rw [hw6, heap_setCell_other w5 ⟨g, 0, none⟩ k _ h1]
          exact hg5.block k h3 (fun e => h2 (by cases e; rfl))
        have hgbl4 : gb < w4.heap.size := (Array.getElem?_eq_some_iff.1 HBK4.out).1
        have hbk6 : w6.heap[gb]? = _ := (hblk gb (fun e => HGF.out (e ▸ HD1.out.here)) (fun e => HGF.out (e ▸ hF)) hgbl4).trans HBK4.out
        have hmF : ∀ k ∈ m.blks, F k ∧ k ≠ g ∧ k ≠ gr := fun k hk => ⟨HD4.out.elF HMM.out hk, (HD4.out.apart HMM.out hk).1, fun e => (HD4.out.apart HMM.out hk).2 (by rw [e]; rfl)⟩
        have hf6 : FileIn w6 { m with nm := b } := by
          have h0 := (HD4.out.els m HMM.out).kept (w' := w6) fun k hk => hblk k (hmF k hk).2.1 (hmF k hk).2.2 (HD4.out.lt _ (hmF k hk).1)
          exact ⟨h0.rV, h0.rD, h0.s1, h0.s2, h0.s3, h0.b1, h0.b2, h0.z1, h0.z2, hnb0⟩
        have hnd6 : (({ m with nm := b } : MF).blks ++ (ms.take p ++ ms.drop (p + 1)).flatMap MF.blks).Nodup := by
          have h1 : ms.Perm (m :: (ms.take p ++ ms.drop (p + 1))) := by
            have h2 := List.take_append_drop p ms
            have hi := (List.getElem?_eq_some_iff.1 HM.out).1
            have h3 : ms.drop p = m :: ms.drop (p + 1) := by
              rw [List.drop_eq_getElem_cons hi]
              congr 1
              exact (List.getElem?_eq_some_iff.1 HM.out).2
            rw [h3] at h2
            have h4 : (ms.take p ++ m :: ms.drop (p + 1)).Perm (m :: (ms.take p ++ ms.drop (p + 1))) := List.perm_middle
            rwa [h2] at h4
          have h5 := h1.flatMap_right MF.blks
          rw [List.flatMap_cons] at h5
          exact h5.nodup_iff.1 HD4.out.ndF
        have hput := put_is (m := { m with nm := b }) g w6 hd6 (by omega) hf6 (fun k hk => ⟨(hmF k hk).1, (hmF k hk).2.1, fun e => (hmF k hk).2.2 (by cases e; rfl)⟩) hnd6
        have hT6 : Touch F w4 w6 := by
          rw [hw6]
          exact (Touch.grown (F := F) hg5 fun k hk => by cases hk; exact hF).set (.inl HD4.out.here) _
        have hv1 : ({ m with nm := b } : MF).vV = .slice AV nV cV := HVV.out
        have hv2 : ({ m with nm := b } : MF).dV = .slice AD nD cD := HDV.out
        rw [hv1, hv2] at hput
        have q0 : w6.cell? ⟨gb, 0, none⟩ = some (.string b) := cell_of_row w6 gb 0 _ _ _ hbk6
        have q1 : w6.cell? ⟨gb, 1, none⟩ = some (.slice AV nV cV) := cell_of_row w6 gb 1 _ _ _ hbk6
        have q2 : w6.cell? ⟨gb, 2, none⟩ = some (.slice AD nD cD) := cell_of_row w6 gb 2 _ _ _ hbk6
        have q3 : w6.cell? ⟨gb, 3, none⟩ = some (.int .i64 m.same) := cell_of_row w6 gb 3 _ _ _ hbk6
        have HPT := Lib.hid hput
        have HW6 := Lib.hid hw6
        have HTW := Lib.hid ((HT.out.trans (HT4.out.trans hT6 (fun k hk => .inl hk)) (fun k hk => .inl hk)) : Touch F w w6)
        clear hput hw6 hd6 hblk hbk6 hmF hf6 hnd6 hT6 hrow hrow5 hg5 hsub hlen hv1 hv2 e1 k0
        go_upto_region 9 with fail
        rw [← HW6.out]
        clear k5 f5
        go_wp2_with fail
        refine HPT.out.mono ?_
        rintro e w7 ⟨rfl, hto7⟩
        go_wp2_with fail
        go_ret
        exact ⟨rfl, DiskTo.behind HTW.out (hto7 _ rfl rfl rfl rfl)⟩

end Go.Proofs.Ytaccmjgnggepjaa
