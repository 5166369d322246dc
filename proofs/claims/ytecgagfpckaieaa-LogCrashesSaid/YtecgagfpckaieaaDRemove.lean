/-
  Package disk: Remove.
-/
import Derived.Test.YtecgagfpckaieaaDRow
namespace Go.Proofs.Ytecgagfpckaieaa
open Go.RowKit

theorem BeginTo.done {w w' : World} {g : Nat} {F : Nat → Prop} {D : PD} {vL : Value} {ms : List MF} (h : BeginTo g F D vL ms w w') (hg : F g) : DiskTo g F D w w' := by
  have ht := h.touch hg
  obtain ⟨l, hd, _⟩ := h
  exact ⟨F, ⟨_, _, _, hd⟩, ht, fun _ hk => .inl hk⟩

set_option maxHeartbeats 4000000 in
theorem remove_is {F : Nat → Prop} {D : PD} (g : Nat) (s : ByteArray) (w : World) (h : IsDisk w g F D) (hs : s.size ≤ maxLen) (hc : D.calls ≤ 1000000) :
    Calls Try.prog 24 #[.pointer (some ⟨g, 0, none⟩), .string s] w fun e w' => e = .returned (.int .i64 (dRemove D s).2) ∧ DiskTo g F (dRemove D s).1 w w' := by
  obtain ⟨vL, l, ms, h⟩ := h
  have HD := Lib.hid h
  cases hn : okName s with
  | false =>
    have hr : dRemove D s = (D, 1) := by rw [dRemove]; exact dOpen_no hn
    rw [hr]
    clear hr h
    go_enter Try.func24, Try.ntmps24
    go_wp2_with (go_at_call 41; refine (open_no _ _ _ hs hn).mono ?_; rintro e w' ⟨rfl, rfl⟩)
    go_ret
    exact ⟨rfl, DiskTo.same ⟨_, _, _, HD.out⟩⟩
  | true =>
    cases hoff : D.tick.off with
    | true =>
      have hr : dRemove D s = (D.tick, 9) := by rw [dRemove]; exact dOpen_off hn hoff
      rw [hr]
      clear hr h
      go_enter Try.func24, Try.ntmps24
      go_wp2_with (go_at_call 41; refine (open_off _ _ _ HD.out hs hn hc hoff).mono ?_; rintro e w' ⟨rfl, hto⟩)
      go_ret
      exact ⟨rfl, hto.done HD.out.here⟩
    | false =>
      cases hh : D.has s with
      | false =>
        have hr : dRemove D s = (D.tick, 3) := by rw [dRemove]; exact dOpen_none hn hoff hh
        rw [hr]
        clear hr h
        go_enter Try.func24, Try.ntmps24
        go_wp2_with (go_at_call 41; refine (open_on false _ _ _ _ HD.out hs hn hc hoff hh rfl).mono ?_; rintro e w' ⟨he, hto⟩; simp only [Bool.false_eq_true, if_false] at he; subst he)
        go_ret
        exact ⟨rfl, hto.done HD.out.here⟩
      | true =>
        obtain ⟨m, hm, hmn, hvis, hpl⟩ := h.there hh
        have hfa := h.fileAt hh hm
        have hfew := h.few
        obtain ⟨p, hp⟩ : ∃ p, D.pos s = p := ⟨_, rfl⟩
        rw [hp] at hm hpl
        obtain ⟨gr, cap, hvL, hnc, hcm, hne, hF, hnb⟩ := h.rowAt (by omega)
        have hmem : m ∈ ms := List.mem_of_getElem? hm
        have hr : dRemove D s = (D.with (D.L.take p ++ D.L.drop (p + 1)), 0) := by rw [dRemove, dOpen_yes hn hoff hfa, hp]
        rw [hr]
        obtain ⟨n, hnL⟩ : ∃ n, ms.length = n + 1 := ⟨ms.length - 1, by omega⟩
        rw [hnL] at hvL hnc
        have HVL := Lib.hid hvL
        have HNL := Lib.hid hnL
        have HM := Lib.hid hm
        have HMM := Lib.hid hmem
        have HP := Lib.hid hp
        have HH := Lib.hid hh
        subst hvL
        clear hr h hfa hvis hm hmem hmn hp hh
        have hpn : p ≤ n := by omega
        have hn15 : n ≤ 15 := by omega
        clear hnL hpl hfew
        go_enter Try.func24, Try.ntmps24
        go_wp2_with fail
        refine (open_on true p _ _ _ HD.out hs hn hc hoff HH.out HP.out).mono ?_
        rintro e w1 ⟨he, hto⟩
        simp only [if_true] at he
        subst he
        have HT := Lib.hid (hto.touch HD.out.here)
        obtain ⟨l1, hd1, _⟩ := hto
        have HD1 := Lib.hid hd1
        have k0 := hd1.c0
        have hrow := hd1.row
        rw [HNL.out] at hrow
        have hone : ∀ v ∈ cellsD ms, v.oneCell' = true := cells_one fun m hm => hd1.els m hm
        have e1 : IntKind.i64.wrap ((p : Int) + 1) = (p : Int) + 1 := IntWalk.i64_in _ (by omega)
        go_wp2_with fail
        refine (delete_any 0 gr cap n p (cellsD ms) _ hrow hpn (by omega) hone).mono ?_
        rintro e w2 ⟨rfl, hrow2, hg2⟩
        have hgl : g < w1.heap.size := HD1.out.lt _ HD1.out.here
        have k2 : w2.cell? ⟨g, 0, none⟩ = some (.slice (some ⟨gr, 0, none⟩) (n + 1) cap) := (World.cell?_of_block (a := ⟨g, 0, none⟩) (hg2.block g hgl (by simp; omega))).trans k0
        have f2 : w2.frozen? ⟨g, 0, none⟩ = false := (World.frozen?_of_block (a := ⟨g, 0, none⟩) (hg2.block g hgl (by simp; omega))).trans (HD1.out.fz 0)
        have HROW := Lib.hid hrow2
        have HG := Lib.hid hg2
        clear hrow hrow2 hg2 hd1 hone k0
        go_wp2_with fail
        go_ret
        refine ⟨rfl, DiskTo.behind HT.out ?_⟩
        have hsub := erase_sub ms p
        have hlen : (ms.take p ++ ms.drop (p + 1)).length = n := by
          have := HNL.out
          simp only [List.length_append, List.length_take, List.length_drop]
          omega
        have hpf : (D.with (D.L.take p ++ D.L.drop (p + 1))).L = (ms.take p ++ ms.drop (p + 1)).map MF.pf := by rw [map_erase, ← HD.out.eqL]; rfl
        refine HD1.out.rowTo (T' := D.with (D.L.take p ++ D.L.drop (p + 1))) (ms2 := ms.take p ++ ms.drop (p + 1)) HG.out ?_ (.inl rfl) (fun m hm => HD1.out.els m (hsub.subset hm)) (fun m hm k hk => ?_) (HD1.out.ndF.sublist (flat_sub hsub)) hpf ?_ ?_ rfl rfl rfl
        · rw [hlen, ← cellsD_del]
          exact HROW.out
        · have hm' := hsub.subset hm
          exact ⟨HD1.out.elF hm' hk, HD1.out.apart hm' hk⟩
        · show RiseN (namesF (D.L.take p ++ D.L.drop (p + 1)))
          rw [names_erase]
          exact rise_erase HD.out.rise p
        · rw [hlen]; omega

end Go.Proofs.Ytecgagfpckaieaa
