/-
  The page's own disk: Crash.
-/
import Derived.Test.YtejfilphnebckaaDRefA
import Derived.Test.YtejfilphnebckaaDZC
namespace Go.Proofs.Ytejfilphnebckaa
open Go.RowKit

set_option maxRecDepth 100000 in
set_option maxHeartbeats 8000000 in
theorem rcrash_is {F : Nat → Prop} {D : PD} (g : Nat) (AP : Option Addr) (nP cP : Nat) (ps : List Int) (w : World) (h : IsRef w g F D) (hP : ps.length = nP) (hrP : Rd w AP (i64s ps)) (hcP : nP ≤ cP) (hmP : cP ≤ maxLen) (hpr : ∀ x ∈ ps, -9223372036854775808 ≤ x ∧ x ≤ 9223372036854775807) :
    Calls Try.prog 46 #[.pointer (some ⟨g, 0, none⟩), .slice AP nP cP] w (FsTo w (dCrash D ps)) := by
  obtain ⟨vL, l, ms, h⟩ := h
  have HD := Lib.hid h
  have HPR := Lib.hid hpr
  have HP := Lib.hid hP
  have HRP := Lib.hid hrP
  have hgl : g < w.heap.size := h.lt _ h.here
  have c0 := h.c0
  have hfew := h.few
  obtain ⟨AL, cL, hvL, hncL, hcmL, hrd⟩ := h.slice rfl
  obtain ⟨nL, hnL⟩ : ∃ nL, ms.length = nL := ⟨_, rfl⟩
  rw [hnL] at hvL hncL hfew
  have HRD := Lib.hid hrd
  have HN := Lib.hid hnL
  have HEQ := Lib.hid h.eqL
  subst hvL
  unfold maxLen at hmP
  clear h hrd hnL hpr hP hrP
  go_enter Try.func46, Try.ntmps46
  go_wp2_with fail
  go_loopw [5, 6, 7] (fun v t i wr => ∃ (k z : Nat) (xs : List FL), i = .int .i64 k ∧ t = .int .i64 z ∧ k ≤ nL ∧ z ≤ k ∧ Hid (xs.length = k) ∧ Hid (dCrash D ps = xs.map FL.pl ++ crashL (D.L.drop k) (ps.drop z)) ∧ Hid (FsOwn wr w.heap.size v xs) ∧ Below w.heap.size w wr) (fun _ _ i _ => nL - (intOf i).toNat)
  case atStart => exact ⟨0, 0, [], rfl, rfl, by omega, by omega, rfl, rfl, ⟨World.ownsRow_nil _ _ _ _, fun f hf => by simp at hf, by simp [Value.ownBlock]⟩, Below.refl _ _⟩
  case round =>
    obtain ⟨k, z, xs, rfl, rfl, hk, hzk, HXL, HCR, HFS, hb⟩ := hrel
    have k0 : wr.cell? ⟨g, 0, none⟩ = some (.slice AL nL cL) := (hb.cell (p := ⟨g, 0, none⟩) hgl).trans c0
    have hrowv := HFS.out.row
    rw [HXL.out] at hrowv
    obtain ⟨AV, cV, rfl, _, _, _, _⟩ := ownS_slice hrowv
    clear hrowv
    have i0 : (0 : Int) ≤ (k : Int) := by omega
    have iz : (0 : Int) ≤ (z : Int) := by omega
    by_cases hlt : k < nL
    · have i1 : (k : Int) < (nL : Int) := by omega
      obtain ⟨m, hm⟩ : ∃ m, ms[k]? = some m := ⟨ms[k]'(by rw [HN.out]; exact hlt), by simp⟩
      obtain ⟨b, off, rfl, hbl, hcl⟩ := (HRD.out.below hb).open_ (by rw [cellsR_length, HN.out]; omega)
      have hels := HD.out.els m (List.mem_of_getElem? hm)
      obtain ⟨nm, safe, seen, sV, eV⟩ := m
      obtain ⟨⟨⟨As, cs, hsV, hncs, hmcs, hrs, _⟩, hbs, hzs⟩, ⟨⟨Ae, ce, heV, hnce, hmce, hre, _⟩, hbe, hze⟩, _⟩ := hels
      have hLk : D.L.drop k = ⟨nm, seen, safe⟩ :: D.L.drop (k + 1) := by
        have h1 : D.L[k]? = some ⟨nm, seen, safe⟩ := by rw [HEQ.out, List.getElem?_map, hm]; rfl
        obtain ⟨hk1, hk2⟩ := List.getElem?_eq_some_iff.1 h1
        rw [List.drop_eq_getElem_cons hk1, hk2]
      have HLK := Lib.hid hLk
      have hrange : wr.rangeAt b (off + k * 3) [.string nm, sV, eV] := fun j v hj => by
        rw [Nat.add_assoc]
        exact hcl _ _ (cellsR_at hm hj)
      obtain ⟨ns, hns⟩ : ∃ ns, safe.length = ns := ⟨_, rfl⟩
      obtain ⟨ne, hne⟩ : ∃ ne, seen.length = ne := ⟨_, rfl⟩
      change sV = .slice As safe.length cs at hsV
      change eV = .slice Ae seen.length ce at heV
      change safe.length ≤ cs at hncs
      change seen.length ≤ ce at hnce
      change safe.length ≤ 1048576 at hzs
      change seen.length ≤ 1048576 at hze
      rw [hns] at hsV hncs hzs
      rw [hne] at heV hnce hze
      subst hsV heV
      have HRANGE := Lib.hid hrange
      have HNS := Lib.hid hns
      have HNE := Lib.hid hne
      have HBS := Lib.hid hbs
      have HBE := Lib.hid hbe
      obtain ⟨w2, hw2⟩ : ∃ w2, w2 = wr.alloc (.cells #[.string nm, .slice As ns cs, .slice Ae ne ce] 74) := ⟨_, rfl⟩
      have hb2 : Below wr.heap.size wr w2 := by rw [hw2]; exact (Below.refl _ _).alloc (Nat.le_refl _) _
      have bx2 : Box w2 wr.heap.size [.string nm, .slice As ns cs, .slice Ae ne ce] := by rw [hw2]; exact box_new wr [.string nm, .slice As ns cs, .slice Ae ne ce] 74
      have HW2 := Lib.hid hw2
      have HRS2 := Lib.hid (hrs.below (hb.trans (hb2.mono hb.size)))
      have HRE2 := Lib.hid (hre.below (hb.trans (hb2.mono hb.size)))
      have HB2 := Lib.hid hb2
      have HBX2 := Lib.hid bx2
      clear hm hcl hLk hrange hns hne hbs hbe hrs hre hw2 hb2 bx2
      go_wp2_with (refine wpList_load_mid rfl 74 _ rfl b (off + k * 3) rfl [.string nm, .slice As ns cs, .slice Ae ne ce] _ HRANGE.out Try.underlying74 rfl size_rfile ?_)
      rw [← HW2.out]
      refine (eqBytes_any As Ae cs ce ns ne safe seen _ HNS.out HNE.out HRS2.out HRE2.out (by omega) (by omega)).mono ?_
      rintro e w3 ⟨rfl, d, hw3⟩
      have hb3 : Below w2.heap.size w2 w3 := by rw [hw3]; exact below_n (Below.refl _ _) d
      have hbW : Below wr.heap.size wr w3 := HB2.out.trans (hb3.mono HB2.out.size)
      have bx3 := HBX2.out.below hb3 HBX2.out.1
      have x0 : w3.cell? ⟨wr.heap.size, 0, none⟩ = some (.string nm) := bx3.2 0 _ rfl
      have x1 : w3.cell? ⟨wr.heap.size, 1, none⟩ = some (.slice As ns cs) := bx3.2 1 _ rfl
      have x2 : w3.cell? ⟨wr.heap.size, 2, none⟩ = some (.slice Ae ne ce) := bx3.2 2 _ rfl
      have hgbW : wr.heap.size < w3.heap.size := bx3.1
      have HRS := Lib.hid (HRS2.out.below hb3)
      have HRE := Lib.hid (HRE2.out.below hb3)
      clear hw3 hb3
      by_cases hcl : safe = seen
      · rw [decide_eq_true hcl]
        have HOUT : Hid (dCrash D ps = xs.map FL.pl ++ ((nm, safe) :: crashL (D.L.drop (k + 1)) (ps.drop (z)))) := by
          show _ = _
          rw [HCR.out, HLK.out]
          show _ ++ (if seen = safe then _ else _) = _
          rw [if_pos hcl.symm]
        clear bx3 hcl
        go_wp2_with fail
        have HXL' := HXL.out
        have hfsW := HFS.out.below hbW
        go_region_law (first
          | (refine step_copyR (by rfl) (by rfl) (by rfl) (copyBytes_any As cs ns safe _ HNS.out (by first | exact HRS.out | exact Rd.drew HRS.out) hncs (by omega)) ?_; rintro e w5 ⟨v5, rfl, ho5, hb5⟩; have hb25 : Below w3.heap.size w3 w5 := (by first | exact hb5 | exact ((Below.refl _ _).drew).trans hb5); have ho5b := own_cast ho5 ((u8s_length _).trans HNS.out); obtain ⟨A5, c5, rfl, _, _, _, _, _⟩ := own_val ho5b; refine ⟨_, rfl, ?_⟩; have k5 : w5.cell? ⟨wr.heap.size, 0, none⟩ = some (.string nm) := (hb25.cell (p := ⟨wr.heap.size, 0, none⟩) hgbW).trans x0)
          | (obtain ⟨w6, hw6⟩ : ∃ w6, w6 = w5.alloc (.cells #[.string nm, .slice A5 ns c5] 59) := ⟨_, rfl⟩; have hb6 : Below w5.heap.size w5 w6 := (by rw [hw6]; exact (Below.refl _ _).alloc (Nat.le_refl _) _); have hgx : w6.heap[w5.heap.size]? = some (.cells ([.string nm, .slice A5 ns c5] : List Value).toArray 59 (0, 0)) := (by rw [hw6]; exact heap_alloc_new w5 _); have hbW6 : Below w3.heap.size w3 w6 := hb25.trans (hb6.mono hb25.size); have hfs6 := hfsW.below hbW6; have hrow6 := hfs6.row; rw [HXL'] at hrow6; obtain ⟨A7, c7, w7, hrun, hown7, hg7, hloc7⟩ := run_app_elem (P := Try.prog) w6 22 22 w.heap.size 59 _ 2 40 Try.underlying22 info_afile rfl (by decide) (by decide) _ k _ hrow6 w5.heap.size [.string nm, .slice A5 ns c5] rfl hgx (by simp; exact ⟨rfl, rfl⟩) (by omega) (Nat.le_trans hb.size (Nat.le_trans hbW.size hbW6.size)); refine step_app_run _ (by rfl) _ _ 22 22 (by rfl) (by rfl) (by rfl) (by rw [← hw6]; exact hrun) ?_; have q7 : w7.cell? ⟨wr.heap.size, 0, none⟩ = some (.string nm) := (World.cell?_of_block (a := ⟨wr.heap.size, 0, none⟩) (hg7.block wr.heap.size (Nat.lt_of_lt_of_le hgbW hbW6.size) (fun e => by have := (own_lt HFS.out.row e.symm).1; omega))).trans ((hb6.cell (p := ⟨wr.heap.size, 0, none⟩) (Nat.lt_of_lt_of_le hgbW hb25.size)).trans k5)))
        all_goals
          have hoc : w6.ownsRow w3.heap.size 5 1 (.slice A5 ns c5) safe.length (u8s safe) := own_cast (own_below ho5b hb6) HNS.out.symm
          have hfs7 : FsOwn w7 w.heap.size (.slice A7 (k + 1) c7) (xs ++ [⟨nm, safe, .slice A5 ns c5⟩]) :=
            FsOwn.snoc (w := w3) (f := ⟨nm, safe, .slice A5 ns c5⟩) hfs6 hoc HBS.out (Nat.le_trans hb.size hbW.size) HXL'.symm (fun k' hk' => by
              refine Nat.lt_of_lt_of_le ?_ hbW.size
              rcases hk' with hk' | ⟨x, hx, hk'⟩
              · exact (own_lt HFS.out.row hk').1
              · exact (own_lt (HFS.out.els x hx).1 hk').1) hown7 hg7 hloc7
          have hbw7 : Below w.heap.size w w7 := belowS_own (hb.trans ((hbW.trans (hbW6.mono hbW.size)).mono hb.size)) hrow6 hg7 (Nat.le_trans hb.size (Nat.le_trans hbW.size hbW6.size))
          have HFS7 := Lib.hid hfs7
          have HCR7 : Hid (dCrash D ps = (xs ++ ([⟨nm, safe, .slice A5 ns c5⟩] : List FL)).map FL.pl ++ crashL (D.L.drop (k + 1)) (ps.drop (z))) := by
            show _ = _
            rw [HOUT.out, List.map_append, List.append_assoc]
            rfl
          have HXL7 : Hid ((xs ++ ([⟨nm, safe, .slice A5 ns c5⟩] : List FL)).length = k + 1) := by show _ = _; rw [List.length_append, HXL']; rfl
          clear hfs7 hoc hrun hown7 hg7 hloc7 hrow6 hfs6 hbW6 hgx hb6 hw6 k5 q7 ho5b ho5 hb5 hb25
          go_wp2_with fail
          go_roundw
          case rel => exact ⟨k + 1, z, _, by go_num, rfl, by omega, by omega, HXL7, HCR7, HFS7, hbw7⟩
          case measure => simp [intOf]; omega
      · rw [decide_eq_false hcl]
        by_cases htp : z < nP
        · have j0 : (z : Int) < (nP : Int) := by omega
          obtain ⟨pk, hpk0⟩ : ∃ pk, ps[z]? = some pk := ⟨ps[z]'(by rw [HP.out]; exact htp), by simp⟩
          have hpk := HPR.out pk (List.mem_of_getElem? hpk0)
          have HPT : Hid ((ps.drop z).headD 0 = pk) := by
            show _ = _
            obtain ⟨h1, h2⟩ := List.getElem?_eq_some_iff.1 hpk0
            rw [List.drop_eq_getElem_cons h1, h2]
            rfl
          have HPD : Hid ((ps.drop z).tail = ps.drop (z + 1)) := by
            show _ = _
            rw [List.tail_drop]
          obtain ⟨bP, oP, rfl, hbP, hcP'⟩ := HRP.out.open_ (by rw [i64s_length, HP.out]; omega)
          have y0 : w3.cell? ⟨bP, oP + z, none⟩ = some (.int .i64 pk) := by
            refine ((hb.trans (hbW.mono hb.size)).cell (p := ⟨bP, oP + z, none⟩) hbP).trans (hcP' z _ ?_)
            rw [i64s_at (by rw [HP.out]; exact htp), hpk0]
            rfl
          have hr3 : pk % 3 = 0 ∨ pk % 3 = 1 ∨ pk % 3 = 2 := by omega
          clear hpk0 hcP'
          rcases hr3 with hr3 | hr3 | hr3
          · have j1 : (pk % 3 == 1) = false := by rw [hr3]; rfl
            have j2 : (pk % 3 == 2) = false := by rw [hr3]; rfl
            have HOUT : Hid (dCrash D ps = xs.map FL.pl ++ ((nm, safe) :: crashL (D.L.drop (k + 1)) (ps.drop (z + 1)))) := by
              show _ = _
              rw [HCR.out, HLK.out]
              show _ ++ (if seen = safe then _ else _) = _
              rw [if_neg (fun e => hcl e.symm), HPT.out, HPD.out]
              unfold outl
              rw [if_pos hr3]
            clear bx3 hcl hr3
            go_wp2_with fail
            refine (rmod_any pk 3 _ (by omega) (by omega)).mono ?_
            rintro e w' ⟨rfl, rfl⟩
            go_wp2_with fail
            have HXL' := HXL.out
            have hfsW := HFS.out.below hbW
            go_region_law (first
              | (refine step_copyR (by rfl) (by rfl) (by rfl) (copyBytes_any As cs ns safe _ HNS.out (by first | exact HRS.out | exact Rd.drew HRS.out) hncs (by omega)) ?_; rintro e w5 ⟨v5, rfl, ho5, hb5⟩; have hb25 : Below w3.heap.size w3 w5 := (by first | exact hb5 | exact ((Below.refl _ _).drew).trans hb5); have ho5b := own_cast ho5 ((u8s_length _).trans HNS.out); obtain ⟨A5, c5, rfl, _, _, _, _, _⟩ := own_val ho5b; refine ⟨_, rfl, ?_⟩; have k5 : w5.cell? ⟨wr.heap.size, 0, none⟩ = some (.string nm) := (hb25.cell (p := ⟨wr.heap.size, 0, none⟩) hgbW).trans x0)
              | (obtain ⟨w6, hw6⟩ : ∃ w6, w6 = w5.alloc (.cells #[.string nm, .slice A5 ns c5] 59) := ⟨_, rfl⟩; have hb6 : Below w5.heap.size w5 w6 := (by rw [hw6]; exact (Below.refl _ _).alloc (Nat.le_refl _) _); have hgx : w6.heap[w5.heap.size]? = some (.cells ([.string nm, .slice A5 ns c5] : List Value).toArray 59 (0, 0)) := (by rw [hw6]; exact heap_alloc_new w5 _); have hbW6 : Below w3.heap.size w3 w6 := hb25.trans (hb6.mono hb25.size); have hfs6 := hfsW.below hbW6; have hrow6 := hfs6.row; rw [HXL'] at hrow6; obtain ⟨A7, c7, w7, hrun, hown7, hg7, hloc7⟩ := run_app_elem (P := Try.prog) w6 22 22 w.heap.size 59 _ 2 40 Try.underlying22 info_afile rfl (by decide) (by decide) _ k _ hrow6 w5.heap.size [.string nm, .slice A5 ns c5] rfl hgx (by simp; exact ⟨rfl, rfl⟩) (by omega) (Nat.le_trans hb.size (Nat.le_trans hbW.size hbW6.size)); refine step_app_run _ (by rfl) _ _ 22 22 (by rfl) (by rfl) (by rfl) (by rw [← hw6]; exact hrun) ?_; have q7 : w7.cell? ⟨wr.heap.size, 0, none⟩ = some (.string nm) := (World.cell?_of_block (a := ⟨wr.heap.size, 0, none⟩) (hg7.block wr.heap.size (Nat.lt_of_lt_of_le hgbW hbW6.size) (fun e => by have := (own_lt HFS.out.row e.symm).1; omega))).trans ((hb6.cell (p := ⟨wr.heap.size, 0, none⟩) (Nat.lt_of_lt_of_le hgbW hb25.size)).trans k5)))
            all_goals
              have hoc : w6.ownsRow w3.heap.size 5 1 (.slice A5 ns c5) safe.length (u8s safe) := own_cast (own_below ho5b hb6) HNS.out.symm
              have hfs7 : FsOwn w7 w.heap.size (.slice A7 (k + 1) c7) (xs ++ [⟨nm, safe, .slice A5 ns c5⟩]) :=
                FsOwn.snoc (w := w3) (f := ⟨nm, safe, .slice A5 ns c5⟩) hfs6 hoc HBS.out (Nat.le_trans hb.size hbW.size) HXL'.symm (fun k' hk' => by
                  refine Nat.lt_of_lt_of_le ?_ hbW.size
                  rcases hk' with hk' | ⟨x, hx, hk'⟩
                  · exact (own_lt HFS.out.row hk').1
                  · exact (own_lt (HFS.out.els x hx).1 hk').1) hown7 hg7 hloc7
              have hbw7 : Below w.heap.size w w7 := belowS_own (hb.trans ((hbW.trans (hbW6.mono hbW.size)).mono hb.size)) hrow6 hg7 (Nat.le_trans hb.size (Nat.le_trans hbW.size hbW6.size))
              have HFS7 := Lib.hid hfs7
              have HCR7 : Hid (dCrash D ps = (xs ++ ([⟨nm, safe, .slice A5 ns c5⟩] : List FL)).map FL.pl ++ crashL (D.L.drop (k + 1)) (ps.drop (z + 1))) := by
                show _ = _
                rw [HOUT.out, List.map_append, List.append_assoc]
                rfl
              have HXL7 : Hid ((xs ++ ([⟨nm, safe, .slice A5 ns c5⟩] : List FL)).length = k + 1) := by show _ = _; rw [List.length_append, HXL']; rfl
              clear hfs7 hoc hrun hown7 hg7 hloc7 hrow6 hfs6 hbW6 hgx hb6 hw6 k5 q7 ho5b ho5 hb5 hb25
              go_wp2_with fail
              go_roundw
              case rel => exact ⟨k + 1, z + 1, _, by go_num, by go_num, by omega, by omega, HXL7, HCR7, HFS7, hbw7⟩
              case measure => simp [intOf]; omega
          · have j1 : (pk % 3 == 1) = true := by rw [hr3]; rfl
            have HOUT : Hid (dCrash D ps = xs.map FL.pl ++ ((nm, seen) :: crashL (D.L.drop (k + 1)) (ps.drop (z + 1)))) := by
              show _ = _
              rw [HCR.out, HLK.out]
              show _ ++ (if seen = safe then _ else _) = _
              rw [if_neg (fun e => hcl e.symm), HPT.out, HPD.out]
              unfold outl
              rw [if_neg (by omega), if_pos hr3]
            clear bx3 hcl hr3
            go_wp2_with fail
            refine (rmod_any pk 3 _ (by omega) (by omega)).mono ?_
            rintro e w' ⟨rfl, rfl⟩
            go_wp2_with fail
            have HXL' := HXL.out
            have hfsW := HFS.out.below hbW
            go_region_law (first
              | (refine step_copyR (by rfl) (by rfl) (by rfl) (copyBytes_any Ae ce ne seen _ HNE.out (by first | exact HRE.out | exact Rd.drew HRE.out) hnce (by omega)) ?_; rintro e w5 ⟨v5, rfl, ho5, hb5⟩; have hb25 : Below w3.heap.size w3 w5 := (by first | exact hb5 | exact ((Below.refl _ _).drew).trans hb5); have ho5b := own_cast ho5 ((u8s_length _).trans HNE.out); obtain ⟨A5, c5, rfl, _, _, _, _, _⟩ := own_val ho5b; refine ⟨_, rfl, ?_⟩; have k5 : w5.cell? ⟨wr.heap.size, 0, none⟩ = some (.string nm) := (hb25.cell (p := ⟨wr.heap.size, 0, none⟩) hgbW).trans x0)
              | (obtain ⟨w6, hw6⟩ : ∃ w6, w6 = w5.alloc (.cells #[.string nm, .slice A5 ne c5] 59) := ⟨_, rfl⟩; have hb6 : Below w5.heap.size w5 w6 := (by rw [hw6]; exact (Below.refl _ _).alloc (Nat.le_refl _) _); have hgx : w6.heap[w5.heap.size]? = some (.cells ([.string nm, .slice A5 ne c5] : List Value).toArray 59 (0, 0)) := (by rw [hw6]; exact heap_alloc_new w5 _); have hbW6 : Below w3.heap.size w3 w6 := hb25.trans (hb6.mono hb25.size); have hfs6 := hfsW.below hbW6; have hrow6 := hfs6.row; rw [HXL'] at hrow6; obtain ⟨A7, c7, w7, hrun, hown7, hg7, hloc7⟩ := run_app_elem (P := Try.prog) w6 22 22 w.heap.size 59 _ 2 40 Try.underlying22 info_afile rfl (by decide) (by decide) _ k _ hrow6 w5.heap.size [.string nm, .slice A5 ne c5] rfl hgx (by simp; exact ⟨rfl, rfl⟩) (by omega) (Nat.le_trans hb.size (Nat.le_trans hbW.size hbW6.size)); refine step_app_run _ (by rfl) _ _ 22 22 (by rfl) (by rfl) (by rfl) (by rw [← hw6]; exact hrun) ?_; have q7 : w7.cell? ⟨wr.heap.size, 0, none⟩ = some (.string nm) := (World.cell?_of_block (a := ⟨wr.heap.size, 0, none⟩) (hg7.block wr.heap.size (Nat.lt_of_lt_of_le hgbW hbW6.size) (fun e => by have := (own_lt HFS.out.row e.symm).1; omega))).trans ((hb6.cell (p := ⟨wr.heap.size, 0, none⟩) (Nat.lt_of_lt_of_le hgbW hb25.size)).trans k5)))
            all_goals
              have hoc : w6.ownsRow w3.heap.size 5 1 (.slice A5 ne c5) seen.length (u8s seen) := own_cast (own_below ho5b hb6) HNE.out.symm
              have hfs7 : FsOwn w7 w.heap.size (.slice A7 (k + 1) c7) (xs ++ [⟨nm, seen, .slice A5 ne c5⟩]) :=
                FsOwn.snoc (w := w3) (f := ⟨nm, seen, .slice A5 ne c5⟩) hfs6 hoc HBE.out (Nat.le_trans hb.size hbW.size) HXL'.symm (fun k' hk' => by
                  refine Nat.lt_of_lt_of_le ?_ hbW.size
                  rcases hk' with hk' | ⟨x, hx, hk'⟩
                  · exact (own_lt HFS.out.row hk').1
                  · exact (own_lt (HFS.out.els x hx).1 hk').1) hown7 hg7 hloc7
              have hbw7 : Below w.heap.size w w7 := belowS_own (hb.trans ((hbW.trans (hbW6.mono hbW.size)).mono hb.size)) hrow6 hg7 (Nat.le_trans hb.size (Nat.le_trans hbW.size hbW6.size))
              have HFS7 := Lib.hid hfs7
              have HCR7 : Hid (dCrash D ps = (xs ++ ([⟨nm, seen, .slice A5 ne c5⟩] : List FL)).map FL.pl ++ crashL (D.L.drop (k + 1)) (ps.drop (z + 1))) := by
                show _ = _
                rw [HOUT.out, List.map_append, List.append_assoc]
                rfl
              have HXL7 : Hid ((xs ++ ([⟨nm, seen, .slice A5 ne c5⟩] : List FL)).length = k + 1) := by show _ = _; rw [List.length_append, HXL']; rfl
              clear hfs7 hoc hrun hown7 hg7 hloc7 hrow6 hfs6 hbW6 hgx hb6 hw6 k5 q7 ho5b ho5 hb5 hb25
              go_wp2_with fail
              go_roundw
              case rel => exact ⟨k + 1, z + 1, _, by go_num, by go_num, by omega, by omega, HXL7, HCR7, HFS7, hbw7⟩
              case measure => simp [intOf]; omega
          · have j1 : (pk % 3 == 1) = false := by rw [hr3]; rfl
            have j2 : (pk % 3 == 2) = true := by rw [hr3]; rfl
            have HMAX : Hid (0 < max ne ns) := by
              show 0 < max ne ns
              rcases Nat.eq_zero_or_pos (max ne ns) with h0 | h0
              · exfalso
                have h1 : ne = 0 := by omega
                have h2 : ns = 0 := by omega
                have h3 := HNE.out
                have h4 := HNS.out
                rw [h1] at h3
                rw [h2] at h4
                exact hcl ((List.eq_nil_of_length_eq_zero h4).trans (List.eq_nil_of_length_eq_zero h3).symm)
              · exact h0
            obtain ⟨ts, hts⟩ : ∃ ts, ts = tornB seen safe (pk / 3) := ⟨_, rfl⟩
            have HOUT : Hid (dCrash D ps = xs.map FL.pl ++ ((nm, ts) :: crashL (D.L.drop (k + 1)) (ps.drop (z + 1)))) := by
              show _ = _
              rw [HCR.out, HLK.out]
              show _ ++ (if seen = safe then _ else _) = _
              rw [if_neg (fun e => hcl e.symm), HPT.out, HPD.out]
              unfold outl
              rw [if_neg (by omega), if_neg (by omega), ← hts]
            have HB4 : Hid (Byts ts) := by
              show Byts ts
              have := outl_byts HBE.out HBS.out pk
              unfold outl at this
              rwa [if_neg (by omega), if_neg (by omega), ← hts] at this
            have HZ4 : Hid (ts.length = ne) := by show _ = _; rw [hts, tornB, List.length_map, List.length_range, HNE.out]
            have HTS := Lib.hid hts
            clear hcl hr3 hts
            go_wp2_with fail
            refine (rmod_any pk 3 _ (by omega) (by omega)).mono ?_
            rintro e w' ⟨rfl, rfl⟩
            go_wp2_with fail
            have hbd : Below w3.heap.size w3 w3.drew := (Below.refl _ _).drew
            have HBX3 := Lib.hid bx3
            refine wp_region_held_drew (S := fun w' => Below w3.heap.size w3 w') (by kernel_rfl) hbd (fun _ => ?_)
            refine ytake_0 (by kernel_rfl) (by kernel_rfl) (by kernel_rfl) (fun _ _ _ h => h) (yieldsIf_load_mid rfl 74 _ rfl wr.heap.size 0 rfl [.string nm, .slice As ns cs, .slice Ae ne ce] _ (fun w' h => fun j v hv => by rw [Nat.zero_add]; exact (HBX3.out.below h HBX3.out.1).2 j v hv) Try.underlying74 rfl size_rfile) hbd ?_
            try simp only [Act.put, List.setIfInBounds_toArray, List.set_cons_zero, List.set_cons_succ]
            refine ytake_1 (v := ?vv1) (by kernel_rfl) (by kernel_rfl) (by kernel_rfl) (fun _ _ _ h => h) (Or.inl ⟨by rfl, ?hy1⟩) hbd ?_
            case hy1 =>
              intro wX hSw
              go_simp
              try with_reducible rfl
            try simp only [Act.put, List.setIfInBounds_toArray, List.set_cons_zero, List.set_cons_succ]
            refine yready_2 (by kernel_rfl) ?_
            intro KQ hK
            rw [if_pos (by rfl)]
            try go_simp
            refine (rdiv_any pk 3 _ hpk (by omega) (by omega)).mono ?_
            rintro e w4 ⟨rfl, hw4⟩
            have hx4 : Below w3.heap.size w3 w4 := by rw [← hw4]; exact hbd
            clear hw4
            refine hK.out _ _ hx4 (fun _ => ?_)
            clear hK KQ
            try simp only [Act.put, List.setIfInBounds_toArray, List.set_cons_zero, List.set_cons_succ]
            refine yready_3 (by kernel_rfl) ?_
            intro KQ hK
            rw [if_pos (by rfl)]
            try go_simp
            refine (rtorn_is nm As Ae cs ce ns ne safe seen (pk / 3) _ HNS.out HNE.out (HRS.out.below hx4) (HRE.out.below hx4) hzs hze HMAX.out).mono ?_
            rintro e w5 ⟨v5, rfl, ho5, hq5⟩
            obtain ⟨n4, hn4⟩ : ∃ n4, (tornB seen safe (pk / 3)).length = n4 := ⟨_, rfl⟩
            have ho4 := own_cast ho5 ((u8s_length _).trans hn4)
            obtain ⟨A4, c4, rfl, hnc4, hmc4, hr4, _, _⟩ := own_val ho4
            try go_simp
            have hx5 : Below w3.heap.size w3 w5 := hx4.trans (hq5.mono hx4.size)
            refine hK.out _ _ hx5 (fun _ => ?_)
            clear hK KQ
            try simp only [Act.put, List.setIfInBounds_toArray, List.set_cons_zero, List.set_cons_succ]
            refine ytake_4 (v := ?vv2) (by kernel_rfl) (by kernel_rfl) (by kernel_rfl) (fun _ _ _ h => h) (Or.inl ⟨by rfl, ?hy2⟩) hx5 ?_
            case hy2 =>
              intro wX hSw
              go_simp
              try with_reducible rfl
            try simp only [Act.put, List.setIfInBounds_toArray, List.set_cons_zero, List.set_cons_succ]
            refine wpAnyH_done (by kernel_rfl) ?_ _
            have HR5 := Lib.hid hr4
            have HN5 := Lib.hid hn4
            clear ho5 ho4 hr4 hn4 hq5
            rw [← HTS.out] at HR5 HN5
            have hz4 : n4 ≤ 1048576 := by have h1 := HN5.out; have h2 := HZ4.out; omega
            have hbW4 : Below wr.heap.size wr w5 := hbW.trans (hx5.mono hbW.size)
            have x04 : w5.cell? ⟨wr.heap.size, 0, none⟩ = some (.string nm) := (hx5.cell (p := ⟨wr.heap.size, 0, none⟩) hgbW).trans x0
            have hgbW4 : wr.heap.size < w5.heap.size := Nat.lt_of_lt_of_le hgbW hx5.size
            clear x0 x1 x2 bx3 hbd hx4 hbW hgbW y0 HBX3
            have hbW := hbW4
            have x0 := x04
            have hgbW := hgbW4
            clear hbW4 x04 hgbW4 hx5
            generalize w5 = w4 at *
            go_wp2_with fail
            have HXL' := HXL.out
            have hfsW := HFS.out.below hbW
            go_region_law (first
              | (refine step_copyR (by rfl) (by rfl) (by rfl) (copyBytes_any A4 c4 n4 ts _ HN5.out (by first | exact HR5.out | exact Rd.drew HR5.out) hnc4 (by omega)) ?_; rintro e w5 ⟨v5, rfl, ho5, hb5⟩; have hb25 : Below w4.heap.size w4 w5 := (by first | exact hb5 | exact ((Below.refl _ _).drew).trans hb5); have ho5b := own_cast ho5 ((u8s_length _).trans HN5.out); obtain ⟨A5, c5, rfl, _, _, _, _, _⟩ := own_val ho5b; refine ⟨_, rfl, ?_⟩; have k5 : w5.cell? ⟨wr.heap.size, 0, none⟩ = some (.string nm) := (hb25.cell (p := ⟨wr.heap.size, 0, none⟩) hgbW).trans x0)
              | (obtain ⟨w6, hw6⟩ : ∃ w6, w6 = w5.alloc (.cells #[.string nm, .slice A5 n4 c5] 59) := ⟨_, rfl⟩; have hb6 : Below w5.heap.size w5 w6 := (by rw [hw6]; exact (Below.refl _ _).alloc (Nat.le_refl _) _); have hgx : w6.heap[w5.heap.size]? = some (.cells ([.string nm, .slice A5 n4 c5] : List Value).toArray 59 (0, 0)) := (by rw [hw6]; exact heap_alloc_new w5 _); have hbW6 : Below w4.heap.size w4 w6 := hb25.trans (hb6.mono hb25.size); have hfs6 := hfsW.below hbW6; have hrow6 := hfs6.row; rw [HXL'] at hrow6; obtain ⟨A7, c7, w7, hrun, hown7, hg7, hloc7⟩ := run_app_elem (P := Try.prog) w6 22 22 w.heap.size 59 _ 2 40 Try.underlying22 info_afile rfl (by decide) (by decide) _ k _ hrow6 w5.heap.size [.string nm, .slice A5 n4 c5] rfl hgx (by simp; exact ⟨rfl, rfl⟩) (by omega) (Nat.le_trans hb.size (Nat.le_trans hbW.size hbW6.size)); refine step_app_run _ (by rfl) _ _ 22 22 (by rfl) (by rfl) (by rfl) (by rw [← hw6]; exact hrun) ?_; have q7 : w7.cell? ⟨wr.heap.size, 0, none⟩ = some (.string nm) := (World.cell?_of_block (a := ⟨wr.heap.size, 0, none⟩) (hg7.block wr.heap.size (Nat.lt_of_lt_of_le hgbW hbW6.size) (fun e => by have := (own_lt HFS.out.row e.symm).1; omega))).trans ((hb6.cell (p := ⟨wr.heap.size, 0, none⟩) (Nat.lt_of_lt_of_le hgbW hb25.size)).trans k5)))
            all_goals
              have hoc : w6.ownsRow w4.heap.size 5 1 (.slice A5 n4 c5) ts.length (u8s ts) := own_cast (own_below ho5b hb6) HN5.out.symm
              have hfs7 : FsOwn w7 w.heap.size (.slice A7 (k + 1) c7) (xs ++ [⟨nm, ts, .slice A5 n4 c5⟩]) :=
                FsOwn.snoc (w := w4) (f := ⟨nm, ts, .slice A5 n4 c5⟩) hfs6 hoc HB4.out (Nat.le_trans hb.size hbW.size) HXL'.symm (fun k' hk' => by
                  refine Nat.lt_of_lt_of_le ?_ hbW.size
                  rcases hk' with hk' | ⟨x, hx, hk'⟩
                  · exact (own_lt HFS.out.row hk').1
                  · exact (own_lt (HFS.out.els x hx).1 hk').1) hown7 hg7 hloc7
              have hbw7 : Below w.heap.size w w7 := belowS_own (hb.trans ((hbW.trans (hbW6.mono hbW.size)).mono hb.size)) hrow6 hg7 (Nat.le_trans hb.size (Nat.le_trans hbW.size hbW6.size))
              have HFS7 := Lib.hid hfs7
              have HCR7 : Hid (dCrash D ps = (xs ++ ([⟨nm, ts, .slice A5 n4 c5⟩] : List FL)).map FL.pl ++ crashL (D.L.drop (k + 1)) (ps.drop (z + 1))) := by
                show _ = _
                rw [HOUT.out, List.map_append, List.append_assoc]
                rfl
              have HXL7 : Hid ((xs ++ ([⟨nm, ts, .slice A5 n4 c5⟩] : List FL)).length = k + 1) := by show _ = _; rw [List.length_append, HXL']; rfl
              clear hfs7 hoc hrun hown7 hg7 hloc7 hrow6 hfs6 hbW6 hgx hb6 hw6 k5 q7 ho5b ho5 hb5 hb25
              go_wp2_with fail
              go_roundw
              case rel => exact ⟨k + 1, z + 1, _, by go_num, by go_num, by omega, by omega, HXL7, HCR7, HFS7, hbw7⟩
              case measure => simp [intOf]; omega
        · have j0 : ¬ ((z : Int) < (nP : Int)) := by omega
          have HPD : Hid ((ps.drop z).tail = ps.drop (z + 1)) := by
            show _ = _
            rw [List.tail_drop]
          have HPT : Hid ((ps.drop z).headD 0 = 0) := by
            show _ = _
            rw [List.drop_of_length_le (by rw [HP.out]; omega)]
            rfl
          have HOUT : Hid (dCrash D ps = xs.map FL.pl ++ ((nm, safe) :: crashL (D.L.drop (k + 1)) (ps.drop (z + 1)))) := by
            show _ = _
            rw [HCR.out, HLK.out]
            show _ ++ (if seen = safe then _ else _) = _
            rw [if_neg (fun e => hcl e.symm), HPT.out, HPD.out]
            unfold outl
            rw [if_pos (by rfl)]
          clear bx3 hcl
          go_wp2_with fail
          refine (rmod_any 0 3 _ (by omega) (by omega)).mono ?_
          rintro e w' ⟨rfl, rfl⟩
          go_wp2_with fail
          have HXL' := HXL.out
          have hfsW := HFS.out.below hbW
          go_region_law (first
            | (refine step_copyR (by rfl) (by rfl) (by rfl) (copyBytes_any As cs ns safe _ HNS.out (by first | exact HRS.out | exact Rd.drew HRS.out) hncs (by omega)) ?_; rintro e w5 ⟨v5, rfl, ho5, hb5⟩; have hb25 : Below w3.heap.size w3 w5 := (by first | exact hb5 | exact ((Below.refl _ _).drew).trans hb5); have ho5b := own_cast ho5 ((u8s_length _).trans HNS.out); obtain ⟨A5, c5, rfl, _, _, _, _, _⟩ := own_val ho5b; refine ⟨_, rfl, ?_⟩; have k5 : w5.cell? ⟨wr.heap.size, 0, none⟩ = some (.string nm) := (hb25.cell (p := ⟨wr.heap.size, 0, none⟩) hgbW).trans x0)
            | (obtain ⟨w6, hw6⟩ : ∃ w6, w6 = w5.alloc (.cells #[.string nm, .slice A5 ns c5] 59) := ⟨_, rfl⟩; have hb6 : Below w5.heap.size w5 w6 := (by rw [hw6]; exact (Below.refl _ _).alloc (Nat.le_refl _) _); have hgx : w6.heap[w5.heap.size]? = some (.cells ([.string nm, .slice A5 ns c5] : List Value).toArray 59 (0, 0)) := (by rw [hw6]; exact heap_alloc_new w5 _); have hbW6 : Below w3.heap.size w3 w6 := hb25.trans (hb6.mono hb25.size); have hfs6 := hfsW.below hbW6; have hrow6 := hfs6.row; rw [HXL'] at hrow6; obtain ⟨A7, c7, w7, hrun, hown7, hg7, hloc7⟩ := run_app_elem (P := Try.prog) w6 22 22 w.heap.size 59 _ 2 40 Try.underlying22 info_afile rfl (by decide) (by decide) _ k _ hrow6 w5.heap.size [.string nm, .slice A5 ns c5] rfl hgx (by simp; exact ⟨rfl, rfl⟩) (by omega) (Nat.le_trans hb.size (Nat.le_trans hbW.size hbW6.size)); refine step_app_run _ (by rfl) _ _ 22 22 (by rfl) (by rfl) (by rfl) (by rw [← hw6]; exact hrun) ?_; have q7 : w7.cell? ⟨wr.heap.size, 0, none⟩ = some (.string nm) := (World.cell?_of_block (a := ⟨wr.heap.size, 0, none⟩) (hg7.block wr.heap.size (Nat.lt_of_lt_of_le hgbW hbW6.size) (fun e => by have := (own_lt HFS.out.row e.symm).1; omega))).trans ((hb6.cell (p := ⟨wr.heap.size, 0, none⟩) (Nat.lt_of_lt_of_le hgbW hb25.size)).trans k5)))
          all_goals
            have hoc : w6.ownsRow w3.heap.size 5 1 (.slice A5 ns c5) safe.length (u8s safe) := own_cast (own_below ho5b hb6) HNS.out.symm
            have hfs7 : FsOwn w7 w.heap.size (.slice A7 (k + 1) c7) (xs ++ [⟨nm, safe, .slice A5 ns c5⟩]) :=
              FsOwn.snoc (w := w3) (f := ⟨nm, safe, .slice A5 ns c5⟩) hfs6 hoc HBS.out (Nat.le_trans hb.size hbW.size) HXL'.symm (fun k' hk' => by
                refine Nat.lt_of_lt_of_le ?_ hbW.size
                rcases hk' with hk' | ⟨x, hx, hk'⟩
                · exact (own_lt HFS.out.row hk').1
                · exact (own_lt (HFS.out.els x hx).1 hk').1) hown7 hg7 hloc7
            have hbw7 : Below w.heap.size w w7 := belowS_own (hb.trans ((hbW.trans (hbW6.mono hbW.size)).mono hb.size)) hrow6 hg7 (Nat.le_trans hb.size (Nat.le_trans hbW.size hbW6.size))
            have HFS7 := Lib.hid hfs7
            have HCR7 : Hid (dCrash D ps = (xs ++ ([⟨nm, safe, .slice A5 ns c5⟩] : List FL)).map FL.pl ++ crashL (D.L.drop (k + 1)) (ps.drop (z + 1))) := by
              show _ = _
              rw [HOUT.out, List.map_append, List.append_assoc]
              rfl
            have HXL7 : Hid ((xs ++ ([⟨nm, safe, .slice A5 ns c5⟩] : List FL)).length = k + 1) := by show _ = _; rw [List.length_append, HXL']; rfl
            clear hfs7 hoc hrun hown7 hg7 hloc7 hrow6 hfs6 hbW6 hgx hb6 hw6 k5 q7 ho5b ho5 hb5 hb25
            go_wp2_with fail
            go_roundw
            case rel => exact ⟨k + 1, z + 1, _, by go_num, by go_num, by omega, by omega, HXL7, HCR7, HFS7, hbw7⟩
            case measure => simp [intOf]; omega
    · have i1 : ¬ ((k : Int) < (nL : Int)) := by omega
      have hkn : k = nL := by omega
      go_wp2_with fail
      go_ret
      refine ⟨.slice AV k cV, xs, by rw [hkn]; rfl, ?_, HFS.out, hb⟩
      rw [HCR.out, List.drop_of_length_le (by rw [HEQ.out, List.length_map, HN.out]; omega), crashL, List.append_nil]

end Go.Proofs.Ytejfilphnebckaa
