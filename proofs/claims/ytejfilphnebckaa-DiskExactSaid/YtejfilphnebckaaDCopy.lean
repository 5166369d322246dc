/-
  The page's copies of files; numbers brought within bounds.
-/
import Derived.Test.YtejfilphnebckaaDWakes
namespace Go.Proofs.Ytejfilphnebckaa
open Go.RowKit

theorem within_val (i : Int) (n : Nat) (hn : 0 < n) (hn' : n ≤ 1000) : ∃ r : Nat, r < n ∧ wrap64 ((IntKind.u64.wrap i).tmod (n : Int)) = (r : Int) := by
  have h0 : 0 ≤ IntKind.u64.wrap i := by rw [IntKind.wrap_u64]; omega
  obtain ⟨m, hm⟩ := Int.eq_ofNat_of_zero_le h0
  rw [hm]
  refine ⟨m % n, Nat.mod_lt _ hn, ?_⟩
  have h1 : ((m : Int)).tmod (n : Int) = ((m % n : Nat) : Int) := by
    rw [Int.tmod_eq_emod_of_nonneg (by omega)]
    simp
  have h2 : m % n < n := Nat.mod_lt _ hn
  rw [h1, wrap64]
  omega
theorem within_is (i : Int) (n r : Nat) (w : World) (hv : wrap64 ((IntKind.u64.wrap i).tmod (n : Int)) = (r : Int)) (hn : 0 < n) (hn' : n ≤ 1000) : Calls Try.prog 21 #[.int .i64 i, .int .i64 n] w fun e w' => e = .returned (.int .i64 r) ∧ w = w' := by
  have HV := Lib.hid hv
  clear hv
  go_enter Try.func21, Try.ntmps21
  go_wp2
  rw [HV.out]
  go_ret
  exact ⟨rfl, rfl⟩
theorem within_any (i : Int) (n : Nat) (w : World) (hn : 0 < n) (hn' : n ≤ 1000) : Calls Try.prog 21 #[.int .i64 i, .int .i64 n] w fun e w' => (∃ r : Nat, r < n ∧ e = .returned (.int .i64 r)) ∧ w = w' := by
  obtain ⟨r, hr, hv⟩ := within_val i n hn hn'
  exact (within_is i n r w hv hn hn').mono fun e w' h => ⟨⟨r, hr, h.1⟩, h.2⟩


theorem bcell9 {W w1 : World} (hb : Below W.heap.size W w1) : (∀ b o, b < W.heap.size → w1.cell? ⟨b, o, none⟩ = W.cell? ⟨b, o, none⟩) ∧ (∀ b o, b < W.heap.size → w1.frozen? ⟨b, o, none⟩ = W.frozen? ⟨b, o, none⟩) :=
  ⟨fun b o h => hb.cell (p := ⟨b, o, none⟩) h, fun b o h => hb.frozen (p := ⟨b, o, none⟩) h⟩
set_option maxHeartbeats 4000000 in
theorem copyFile_any (nm : ByteArray) (A : Option Addr) (c n : Nat) (zs : List Int) (w : World) (hz : zs.length = n) (hr : Rd w A (u8s zs)) (hn : n ≤ 1073741824) (hc : n ≤ c) :
    Calls Try.prog 33 #[.agg #[.string nm, .slice A n c]] w fun e w' => ∃ A' c', e = .returned (.agg #[.string nm, .slice A' n c']) ∧ w'.ownsRow w.heap.size 5 1 (.slice A' n c') n (u8s zs) ∧ Below w.heap.size w w' := by
  have HZ := Lib.hid hz
  clear hz
  go_enter Try.func33, Try.ntmps33
  go_wp2_with fail
  refine (copyBytes_any A c n zs _ HZ.out (((hr.alloc _).alloc _).alloc _) hc hn).mono ?_
  rintro e w1 ⟨v, rfl, ho, hb⟩
  have hob := own_cast ho ((u8s_length _).trans HZ.out)
  obtain ⟨A', c', rfl, _, _, _, _, _⟩ := own_val hob
  obtain ⟨hcc, hff⟩ := bcell9 hb
  have hz : w.heap.size + 1 + 1 < w1.heap.size := by have := hb.size; simp at this; omega
  have hz1 : w.heap.size + 1 < w1.heap.size := by omega
  have hz0 : w.heap.size < w1.heap.size := by omega
  have hb3 : Below w.heap.size w w1 := ((((Below.refl _ _).alloc (Nat.le_refl _) _).alloc (by simp) _).alloc (by simp; omega) _).trans (hb.mono (by simp; omega))
  have hb4 : Below w.heap.size w (w1.setCell ⟨w.heap.size + 1 + 1, 1, none⟩ (.slice A' n c')) := hb3.setCell (by show w.heap.size ≤ w.heap.size + 1 + 1; omega) _
  go_wp2_with fail
  refine bodyPost_ret (v := .agg #[.string nm, .slice A' n c']) (by simp [results, Try.results33, go_sem, hcc]) rfl ⟨A', c', rfl, ?_, ?_⟩
  · exact ownS_more (ownsRow_setCell_below (ownsRow_setCell_below (ownsRow_setCell_below hob (by simp) _) (by simp) _) (by simp) _) (by simp; omega)
  · exact (hb4.setCell (by simp) _).setCell (by simp) _

set_option maxRecDepth 100000 in
set_option maxHeartbeats 4000000 in
theorem copyFiles_any (A : Option Addr) (c n : Nat) (l : List FL) (w : World) (hz : l.length = n) (hr : Rd w A (cellsF l)) (hi : ∀ f ∈ l, FIn w f ∧ f.dat.length ≤ 1073741824) (hn : n ≤ 100000) :
    Calls Try.prog 9 #[.slice A n c] w (FsTo w (l.map FL.pl)) := by
  have HZ := Lib.hid hz
  have HR := Lib.hid hr
  have HI := Lib.hid hi
  clear hz hr hi
  go_enter Try.func9, Try.ntmps9
  go_wp2_with fail
  go_loopw [3, 4] (fun v i wr => ∃ (k : Nat) (xs : List FL), i = .int .i64 k ∧ k ≤ n ∧ Hid (xs.map FL.pl = (l.map FL.pl).take k) ∧ Hid (xs.length = k) ∧ Hid (FsOwn wr w.heap.size v xs) ∧ Below w.heap.size w wr) (fun _ i _ => n - (intOf i).toNat)
  case atStart => exact ⟨0, [], rfl, by omega, rfl, rfl, ⟨World.ownsRow_nil _ _ _ _, fun f hf => by simp at hf, by simp [Value.ownBlock]⟩, Below.refl _ _⟩
  case round =>
    rename_i v wr
    obtain ⟨k, xs, rfl, hk, HP, HXL, HFS, hb⟩ := hrel
    have i0 : (0 : Int) ≤ (k : Int) := by omega
    have hrow := HFS.out.row
    rw [HXL.out] at hrow
    obtain ⟨AL, cL, rfl, _, _, _, _⟩ := ownS_slice hrow
    by_cases hlt : k < n
    · have i1 : (k : Int) < (n : Int) := by omega
      obtain ⟨f, hf⟩ : ∃ f, l[k]? = some f := ⟨l[k]'(by rw [HZ.out]; exact hlt), by simp⟩
      obtain ⟨b, off, rfl, _, hcl⟩ := (HR.out.below hb).open_ (by rw [cellsF_length, HZ.out]; omega)
      have hm1 := List.mem_of_getElem? hf
      obtain ⟨⟨⟨Ad, cd, hv, hdc, hdm, hrd⟩, hby⟩, hsz⟩ := HI.out f hm1
      obtain ⟨g0, g1⟩ := cellsF_at hf
      have e0 := hcl _ _ g0
      have e1 := hcl _ _ g1
      rw [hv, ← Nat.add_assoc] at e1
      obtain ⟨nd, hnd⟩ : ∃ nd, f.dat.length = nd := ⟨_, rfl⟩
      rw [hnd] at e1 hsz hdc
      have HRD := Lib.hid (hrd.below hb)
      have HND := Lib.hid hnd
      have HBY := Lib.hid hby
      have HP1 : Hid ((l.map FL.pl).take (k + 1) = xs.map FL.pl ++ [f.pl]) := by
        show _ = _
        rw [List.take_add_one, List.getElem?_map, hf, HP.out]
        rfl
      clear hcl g0 g1 hm1 hf hv hrd hdm hnd hby hrow
      go_wp2_with fail
      refine (copyFile_any f.nm Ad cd nd f.dat _ HND.out HRD.out hsz hdc).mono ?_
      rintro e w4 ⟨A4, c4, rfl, ho4, hb4⟩
      obtain ⟨w5, hw5⟩ : ∃ w5, w5 = w4.alloc (.cells #[.string f.nm, .slice A4 nd c4] 59) := ⟨_, rfl⟩
      have hb5 : Below w4.heap.size w4 w5 := by rw [hw5]; exact (Below.refl _ _).alloc (Nat.le_refl _) _
      have hgx : w5.heap[w4.heap.size]? = some (.cells ([.string f.nm, .slice A4 nd c4] : List Value).toArray 59 (0, 0)) := by rw [hw5]; exact heap_alloc_new w4 _
      have hb25 : Below wr.heap.size wr w5 := hb4.trans (hb5.mono hb4.size)
      have hfs5 := HFS.out.below hb25
      have hrow5 := hfs5.row
      rw [HXL.out] at hrow5
      obtain ⟨A6, c6, w6, hrun, hown6, hg6, hloc6⟩ := run_app_elem (P := Try.prog) w5 22 22 w.heap.size 59 _ 2 40 Try.underlying22 info_afile rfl (by decide) (by decide) _ k _ hrow5 w4.heap.size [.string f.nm, .slice A4 nd c4] rfl hgx (by simp; exact ⟨rfl, rfl⟩) (by omega) (Nat.le_trans hb.size hb25.size)
      have hfs6 : FsOwn w6 w.heap.size (.slice A6 (k + 1) c6) (xs ++ [⟨f.nm, f.dat, .slice A4 nd c4⟩]) :=
        FsOwn.snoc (w := wr) (f := ⟨f.nm, f.dat, .slice A4 nd c4⟩) hfs5 (own_cast (own_below ho4 hb5) HND.out.symm) HBY.out hb.size HXL.out.symm (fun k' hk' => by
          rcases hk' with hk' | ⟨x, hx, hk'⟩
          · exact (own_lt HFS.out.row hk').1
          · exact (own_lt (HFS.out.els x hx).1 hk').1) hown6 hg6 hloc6
      have hbw6 : Below w.heap.size w w6 := belowS_own (hb.trans (hb25.mono hb.size)) hrow5 hg6 (Nat.le_trans hb.size hb25.size)
      have HFS6 := Lib.hid hfs6
      have HP6 : Hid ((xs ++ [⟨f.nm, f.dat, .slice A4 nd c4⟩] : List FL).map FL.pl = (l.map FL.pl).take (k + 1)) := by
        show _ = _
        rw [HP1.out, List.map_append]
        rfl
      have HXL6 : Hid ((xs ++ [⟨f.nm, f.dat, .slice A4 nd c4⟩] : List FL).length = k + 1) := by show _ = _; rw [List.length_append, HXL.out]; rfl
      rw [hw5] at hrun
      have HRUN := Lib.hid hrun
      clear hrun hfs6 hown6 hg6 hloc6 hfs5 hrow5 hb25 hgx ho4 hb4 hb5 hw5
      go_wp2_with (at_builtin; refine wpList_app_run _ rfl _ _ 22 22 rfl rfl rfl HRUN.out ?_)
      go_roundw
      case rel => exact ⟨k + 1, _, by go_num, by omega, HP6, HXL6, HFS6, hbw6⟩
      case measure => simp [intOf]; omega
    · have i1 : ¬ ((k : Int) < (n : Int)) := by omega
      have hkn : k = n := by omega
      go_wp2_with fail
      go_ret
      refine ⟨.slice AL k cL, xs, by rw [hkn]; rfl, ?_, HFS.out, hb⟩
      rw [HP.out, hkn, List.take_of_length_le (by rw [List.length_map, HZ.out]; omega)]

end Go.Proofs.Ytejfilphnebckaa
