/-
  Package disk: Read, List.
-/
import Derived.Test.YtecgagfpckaieaaDOpen
import Derived.Deep.CutBlock
namespace Go.Proofs.Ytecgagfpckaieaa
open Go.RowKit

def PD.visAt (D : PD) (s : ByteArray) : List Int := ((D.L[D.pos s]?).map PF.vis).getD []
def dRead (D : PD) (s : ByteArray) : List Int × Int :=
  if okName s = false then ([], 1) else if D.off = true then ([], 9) else if D.has s = true then (D.visAt s, 0) else ([], 3)
def dList (D : PD) : List ByteArray × Int := if D.off = true then ([], 9) else (namesF D.L, 0)

section
variable {w w' : World} {g : Nat} {F F' : Nat → Prop} {D D' : PD} {vL vL' : Value} {l l' : Int} {ms ms' : List MF} {s : ByteArray} {m : MF} {i : Nat}
theorem DiskIn.there (h : DiskIn w g F D vL l ms) (hh : D.has s = true) : ∃ m, ms[D.pos s]? = some m ∧ m.nm = s ∧ D.visAt s = m.vis ∧ D.pos s < ms.length := by
  have h1 := hasN_at hh
  rw [h.nmL] at h1
  have hp : D.pos s = posN (ms.map MF.nm) s := by rw [PD.pos, h.nmL]
  rw [← hp] at h1
  rw [List.getElem?_map] at h1
  cases hm : ms[D.pos s]? with
  | none => rw [hm] at h1; cases h1
  | some m =>
    rw [hm] at h1
    refine ⟨m, rfl, by simpa using h1, ?_, (List.getElem?_eq_some_iff.1 hm).1⟩
    rw [PD.visAt, h.eqL, List.getElem?_map, hm]
    rfl
/-- a file as it lies -/
structure AtFile (w : World) (gr i : Nat) (m : MF) : Prop where
  a0 : w.cell? ⟨gr, i * 4, none⟩ = some (.string m.nm)
  a1 : w.cell? ⟨gr, i * 4 + 1, none⟩ = some m.vV
  a2 : w.cell? ⟨gr, i * 4 + 2, none⟩ = some m.dV
  a3 : w.cell? ⟨gr, i * 4 + 3, none⟩ = some (.int .i64 m.same)
theorem DiskIn.file (h : DiskIn w g F D vL l ms) {gr n c : Nat} (hv : vL = .slice (some ⟨gr, 0, none⟩) n c) (hm : ms[i]? = some m) : AtFile w gr i m := by
  have hc := fun j v hv' => h.row.cells (g := gr) (by rw [hv]; rfl) j v hv'
  refine ⟨?_, ?_, ?_, ?_⟩
  · have := hc _ _ (cellsD_at hm (j := 0) rfl); rwa [Addr.add_lit, Nat.zero_add] at this
  · have := hc _ _ (cellsD_at hm (j := 1) rfl); rwa [Addr.add_lit, Nat.zero_add] at this
  · have := hc _ _ (cellsD_at hm (j := 2) rfl); rwa [Addr.add_lit, Nat.zero_add] at this
  · have := hc _ _ (cellsD_at hm (j := 3) rfl); rwa [Addr.add_lit, Nat.zero_add] at this
theorem DiskIn.rowfz (h : DiskIn w g F D vL l ms) {gr n c : Nat} (hv : vL = .slice (some ⟨gr, 0, none⟩) n c) (o : Nat) : w.frozen? ⟨gr, o, none⟩ = false := by
  subst hv
  obtain ⟨cur, hg, _⟩ := row_open (n := n) (cap := c) (by
    have := h.row
    rcases this.2 with ⟨hv, _⟩ | ⟨g', cap', cur, hv, _⟩
    · cases hv
    · cases hv; exact this)
  exact frozen_of_row w gr o _ _ hg
theorem FileIn.vals (h : FileIn w m) : ∃ AV nV cV AD nD cD, m.vV = .slice AV nV cV ∧ m.dV = .slice AD nD cD := by
  obtain ⟨A, c, h1, _⟩ := own_val h.rV
  obtain ⟨A', c', h2, _⟩ := own_val h.rD
  exact ⟨A, _, c, A', _, c', h1, h2⟩
theorem rd_own {B : Nat} {v : Value} {xs : List Int} (h : w.ownsRow B 5 1 v xs.length (u8s xs)) : ∃ A c, v = .slice A xs.length c ∧ xs.length ≤ c ∧ c ≤ maxLen ∧ Rd w A (u8s xs) := by
  obtain ⟨A, c, h1, h2, h3, h4, _, _⟩ := own_val h
  exact ⟨A, c, h1, h2, h3, h4⟩
end

set_option maxHeartbeats 2000000 in
theorem read_is {F : Nat → Prop} {D : PD} (g : Nat) (s : ByteArray) (w : World) (h : IsDisk w g F D) (hs : s.size ≤ maxLen) :
    Calls Try.prog 25 #[.pointer (some ⟨g, 0, none⟩), .string s] w (Made2 w.heap.size 5 w (u8s (dRead D s).1) (.int .i64 (dRead D s).2)) := by
  obtain ⟨vL, l, ms, h⟩ := h
  have c0 := h.c0
  have c3 := h.c3
  have HD := Lib.hid h
  cases hn : okName s with
  | false =>
    have hr : dRead D s = ([], 1) := by rw [dRead, if_pos hn]
    rw [hr]
    clear hr h
    go_enter Try.func25, Try.ntmps25
    go_wp2_with (go_at_call 39; refine (isName_is false _ _ hs hn).mono ?_; rintro e w' ⟨rfl, rfl⟩)
    go_ret2
    exact ⟨_, rfl, World.ownsRow_nil _ _ _ _, Below.refl _ _⟩
  | true =>
    cases hoff : D.off with
    | true =>
      have hr : dRead D s = ([], 9) := by rw [dRead, if_neg (by rw [hn]; decide), if_pos hoff]
      rw [hr]
      rw [hoff] at c3
      clear hr h hoff
      go_enter Try.func25, Try.ntmps25
      go_wp2_with (go_at_call 39; refine (isName_is true _ _ hs hn).mono ?_; rintro e w' ⟨rfl, rfl⟩)
      go_ret2
      exact ⟨_, rfl, World.ownsRow_nil _ _ _ _, Below.refl _ _⟩
    | false =>
      rw [hoff] at c3
      cases hh : D.has s with
      | false =>
        have hr : dRead D s = ([], 3) := by rw [dRead, if_neg (by rw [hn]; decide), if_neg (by rw [hoff]; decide), if_neg (by rw [hh]; decide)]
        rw [hr]
        have HH := Lib.hid hh
        clear hr h hoff hh
        go_enter Try.func25, Try.ntmps25
        go_wp2_with (first | (go_at_call 39; refine (isName_is true _ _ hs hn).mono ?_; rintro e w' ⟨rfl, rfl⟩) | (go_at_call 43; refine (find_any _ _ _ HD.out).mono ?_; rintro e w2 ⟨he, hb2⟩; rw [HH.out] at he; subst he))
        go_ret2
        exact ⟨_, rfl, World.ownsRow_nil _ _ _ _, hb2⟩
      | true =>
        obtain ⟨m, hm, hmn, hvis, hpl⟩ := h.there hh
        have hr : dRead D s = (m.vis, 0) := by rw [dRead, if_neg (by rw [hn]; decide), if_neg (by rw [hoff]; decide), if_pos hh, hvis]
        rw [hr]
        obtain ⟨gr, cap, hvL, hnc, hcm, hne, hF, hnb⟩ := h.rowAt (by omega)
        obtain ⟨p, hp⟩ : ∃ p, D.pos s = p := ⟨_, rfl⟩
        rw [hp] at hm hpl
        have hmem : m ∈ ms := List.mem_of_getElem? hm
        obtain ⟨nL, hnL⟩ : ∃ nL, ms.length = nL := ⟨_, rfl⟩
        rw [hnL] at hpl hvL hnc
        have hfew : nL ≤ 16 := by rw [← hnL]; exact h.few
        have hz1 := (h.els m hmem).z1
        have HH := Lib.hid hh
        have HP := Lib.hid hp
        have HMM := Lib.hid hmem
        have HM := Lib.hid hm
        have HVL := Lib.hid hvL
        subst hvL
        clear hr h hoff hh hp hm hmem hvis hmn hnL
        have i0 : (0 : Int) ≤ (p : Int) := by omega
        have i1 : (p : Int) < (nL : Int) := by omega
        go_enter Try.func25, Try.ntmps25
        go_wp2_with (first | (go_at_call 39; refine (isName_is true _ _ hs hn).mono ?_; rintro e w' ⟨rfl, rfl⟩) | fail)
        refine (find_any _ _ _ HD.out).mono ?_
        rintro e w2 ⟨he, hb2⟩
        rw [HH.out, HP.out] at he
        subst he
        have hd2 := HD.out.below hb2
        have k0 := hd2.c0
        have k1 := (hd2.file rfl HM.out).a1
        obtain ⟨AV, cV, hvV, hcV, hmV, hrV⟩ := rd_own (hd2.els m HMM.out).rV
        obtain ⟨nV, hnV⟩ : ∃ nV, m.vis.length = nV := ⟨_, rfl⟩
        rw [hnV] at hvV hcV hz1
        rw [hvV] at k1
        have HN := Lib.hid hnV
        clear hd2 hvV c0 c3 hnV
        go_wp2_with fail
        refine (bclone_any AV nV cV m.vis _ HN.out hrV (by omega)).mono ?_
        rintro e w3 ⟨v3, rfl, ho3, hb3⟩
        go_wp2_with fail
        go_ret2
        exact ⟨_, rfl, own_more ho3 hb2.size, hb2.trans (hb3.mono hb2.size)⟩

theorem info_str9 : (Try.prog.info? 9).map (fun i => (i.zero, i.size, i.bytes)) = some (some (.string ByteArray.empty), 1, 16) := by kernel_rfl
end Go.Proofs.Ytecgagfpckaieaa
