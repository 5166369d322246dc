/-
  What is handed out or in is written over: bytes, files.
-/
import Derived.Test.YtejfilphnebckaaDFiles
namespace Go.Proofs.Ytejfilphnebckaa
open Go.RowKit

set_option maxHeartbeats 1000000 in
/-- bytes written over: only their own row turns -/
theorem spoil_far9 (B : Nat) (v : Value) (n : Nat) (zs : List Int) (w : World) (hown : w.ownsRow B 5 1 v n (u8s zs)) (hn : n ≤ 1073741824) :
    Calls Try.prog 37 #[v] w fun e w' => e = .returned (.tuple #[]) ∧ Touch (fun k => v.ownBlock = some k) w w' := by
  obtain ⟨A, c, rfl, hnl, hc, hm, _, _⟩ := own_slice hown
  rw [← hnl] at hown hc ⊢
  unfold maxLen at hm
  have HL : Hid (n = (u8s zs).length) := hnl
  clear hnl
  go_enter Try.func37, Try.ntmps37
  go_wp2
  go_loopw [2] (fun i wr => ∃ (k : Nat) (ys : List Int), i = .int .i64 k ∧ k ≤ n ∧ wr.ownsRow 0 5 1 (.slice A n c) n (u8s ys) ∧ Touch (fun k => (Value.slice A n c).ownBlock = some k) w wr) (fun i _ => n - (intOf i).toNat)
  case atStart => exact ⟨0, zs, rfl, by omega, own_low hown (fun _ _ => Nat.zero_le _), Touch.refl _ _⟩
  case round =>
    obtain ⟨k, ys, rfl, hk, ho, ht⟩ := hrel
    clear hown
    by_cases hlt : k < n
    · obtain ⟨g, cap, hv, hBg, hglt⟩ := ho.form (by omega)
      simp only [Value.slice.injEq, true_and] at hv
      obtain ⟨rfl, rfl⟩ := hv
      have hyl : ys.length = n := by have := ho.1; rw [u8s_length] at this; omega
      have hc1 : wr.cell? ⟨g, k, none⟩ = some (.int .u8 (ys[k]?.getD 0)) := by rw [ho.cellAt k (by omega), u8s_at (by omega)]
      have hf1 := ho.frozenAt k
      have HY := Lib.hid hyl
      have HT := Lib.hid ht
      clear hyl ht
      have i0 : (0 : Int) ≤ (k : Int) := by omega
      have i1 : (k : Int) < (n : Int) := by omega
      go_wp2
      go_roundw
      case rel =>
        obtain ⟨s1, s2⟩ := ho.stored k (.int .u8 (bits .xor .u8 (ys[k]?.getD 0) 85))
        refine ⟨k + 1, ys.set k (bits .xor .u8 (ys[k]?.getD 0) 85), by go_num, by omega, ?_, HT.out.set (.inl rfl) _⟩
        rw [show u8s (ys.set k (bits .xor .u8 (ys[k]?.getD 0) 85)) = (u8s ys).set k (.int .u8 (bits .xor .u8 (ys[k]?.getD 0) 85)) from by simp [u8s, List.map_set]]
        exact s1
      case measure => simp [intOf]; omega
    · have i1 : ¬ ((k : Int) < (n : Int)) := by omega
      obtain rfl : k = n := by omega
      have HT := Lib.hid ht
      clear ht
      go_wp2_with (at_builtin; refine wpList_app_lies _ rfl _ _ 39 rfl 0 5 (.int .u8 0) 1 Try.underlying39 info_u8 rfl (by decide) _ k _ rfl (ho.alloc _) wr.heap.size (.int .u8 5) rfl (cell_new _ _ _) rfl (by omega) (by omega) ?_)
      intro g' c' w1 hown1 hg1 _
      have hT := (HT.out.alloc (.cells #[.int .u8 5] 5)).trans (Touch.grown (F := fun k' => (Value.slice A k c).ownBlock = some k') hg1 (fun k' e => e)) (fun k' hf => .inl hf)
      go_wp2
      go_end0
      exact ⟨rfl, hT⟩

theorem cellsF_set {l : List FL} {i : Nat} (hi : i < l.length) (f : FL) : ((cellsF l).set (i * 2) (.string f.nm)).set (i * 2 + 1) f.v = cellsF (l.set i f) := by
  have h1 : l = l.take i ++ l[i] :: l.drop (i + 1) := by rw [← List.drop_eq_getElem_cons hi, List.take_append_drop]
  have e1 : cellsF l = cellsF (l.take i) ++ (l[i].cells ++ cellsF (l.drop (i + 1))) := by
    conv => lhs; rw [h1]
    rw [cellsF_append]
    rfl
  have e2 : cellsF (l.set i f) = cellsF (l.take i) ++ (f.cells ++ cellsF (l.drop (i + 1))) := by
    rw [List.set_eq_take_append_cons_drop, if_pos hi, cellsF_append]
    rfl
  have hl : (cellsF (l.take i)).length = i * 2 := by rw [cellsF_length, List.length_take]; omega
  rw [e1, e2, List.set_append_right _ _ (by omega), hl, show i * 2 - i * 2 = 0 by omega, List.set_append_right _ _ (by omega), hl, show i * 2 + 1 - i * 2 = 1 by omega]
  rfl

set_option maxRecDepth 100000 in
set_option maxHeartbeats 4000000 in
/-- files written over: only the list's own row and the files' bytes turn -/
theorem spoilFiles_any (B : Nat) (v : Value) (l : List FL) (w : World) (S : Nat → Prop) (h : FsOwn w B v l) (hn : l.length ≤ 100000) (hz : ∀ f ∈ l, f.dat.length ≤ 1073741824) (hS : ∀ k, v.ownBlock = some k ∨ (∃ f ∈ l, f.v.ownBlock = some k) → S k) :
    Calls Try.prog 11 #[v] w fun e w' => e = .returned (.tuple #[]) ∧ Touch S w w' := by
  obtain ⟨n, hnl⟩ : ∃ n, l.length = n := ⟨_, rfl⟩
  have hrow := own_low h.row (B' := 0) (fun _ _ => Nat.zero_le _)
  rw [hnl] at hrow hn
  obtain ⟨A, c, rfl, hnc, hcm, _, _, _⟩ := ownS_slice hrow
  unfold maxLen at hcm
  have HZ := Lib.hid hz
  have HS := Lib.hid hS
  have HNL := Lib.hid hnl
  have HAP : Hid (∀ f ∈ l, ∀ k, f.v.ownBlock = some k → (Value.slice A n c).ownBlock ≠ some k) := fun f hf k hk e => by
    have hnd := h.nd
    simp only [List.nodup_append, List.mem_flatMap, Option.mem_toList] at hnd
    exact hnd.2.2 k e k ⟨f, hf, hk⟩ rfl
  have HTW : Hid (∀ (i j : Nat) (f f' : FL), i < j → l[i]? = some f → l[j]? = some f' → ∀ k, f.v.ownBlock = some k → f'.v.ownBlock ≠ some k) := fun i j f f' hij hf hf' k hk e => by
    have hnd := h.nd
    simp only [List.nodup_append] at hnd
    have hnd2 := hnd.2.1
    have hd : l = l.take j ++ l.drop j := (List.take_append_drop j l).symm
    rw [hd, List.flatMap_append, List.nodup_append] at hnd2
    refine hnd2.2.2 k ?_ k ?_ rfl
    · refine List.mem_flatMap.2 ⟨f, List.mem_iff_getElem?.2 ⟨i, ?_⟩, by rw [hk]; simp⟩
      rw [List.getElem?_take, if_pos hij]
      exact hf
    · refine List.mem_flatMap.2 ⟨f', List.mem_iff_getElem?.2 ⟨0, ?_⟩, by rw [e]; simp⟩
      rw [List.getElem?_drop]
      exact hf'
  have HST : Hid (∀ f ∈ l, ∃ B', w.ownsRow B' 5 1 f.v f.dat.length (u8s f.dat)) := fun f hf => ⟨B, (h.els f hf).1⟩
  have HROW := Lib.hid hrow
  clear h hz hS hnl hrow
  go_enter Try.func11, Try.ntmps11
  go_wp2_with fail
  go_loopw [2] (fun i wr => ∃ (k : Nat) (ys : List FL), i = .int .i64 k ∧ k ≤ n ∧ Hid (wr.ownsRow 0 59 2 (.slice A n c) n (cellsF ys)) ∧ Hid (ys.length = n) ∧ Hid (∀ j, k ≤ j → ys[j]? = l[j]?) ∧ Hid (∀ j f, k ≤ j → l[j]? = some f → ∃ B', wr.ownsRow B' 5 1 f.v f.dat.length (u8s f.dat)) ∧ Hid (Touch S w wr)) (fun i _ => n - (intOf i).toNat)
  case atStart => exact ⟨0, l, rfl, by omega, HROW.out, HNL.out, fun _ _ => rfl, fun j f _ hf => HST.out f (List.mem_of_getElem? hf), Touch.refl _ _⟩
  case round =>
    obtain ⟨k, ys, rfl, hk, HO, HY, HYL, HR, HT⟩ := hrel
    have i0 : (0 : Int) ≤ (k : Int) := by omega
    by_cases hlt : k < n
    · obtain ⟨g, cap, hv, hBg, hglt⟩ := HO.out.form (by omega)
      simp only [Value.slice.injEq, true_and] at hv
      obtain ⟨rfl, rfl⟩ := hv
      obtain ⟨f, hf⟩ : ∃ f, l[k]? = some f := ⟨l[k]'(by rw [HNL.out]; exact hlt), by simp⟩
      have hfy : ys[k]? = some f := (HYL.out k (Nat.le_refl _)).trans hf
      obtain ⟨g0, g1⟩ := cellsF_at hfy
      have hfl : (cellsF ys).length = n * 2 := by rw [cellsF_length, HY.out]
      obtain ⟨Bf, hof⟩ := HR.out k f (Nat.le_refl _) hf
      have hzf := HZ.out f (List.mem_of_getElem? hf)
      obtain ⟨nd, hnd⟩ : ∃ nd, f.dat.length = nd := ⟨_, rfl⟩
      rw [hnd] at hof hzf
      obtain ⟨Ad, cd, hvd, _, _, _, _, _⟩ := own_val hof
      have e1 : wr.cell? ⟨g, k * 2 + 1, none⟩ = some (.slice Ad nd cd) := by rw [HO.out.cellAt (k * 2 + 1) (by omega), ← hvd]; exact g1
      have i1 : (k : Int) < (n : Int) := by omega
      have hgd : f.v.ownBlock ≠ some g := fun e => HAP.out f (List.mem_of_getElem? hf) g e rfl
      have hof2 : wr.ownsRow Bf 5 1 (.slice Ad nd cd) nd (u8s f.dat) := by rw [← hvd]; exact hof
      have HOF := Lib.hid hof2
      have HVD := Lib.hid hvd
      have HG0 := Lib.hid g0
      have HG1 := Lib.hid g1
      have HF := Lib.hid hf
      have HGD := Lib.hid hgd
      clear hof hof2 hvd hf hfy g0 g1 hnd hgd
      go_wp2_with fail
      refine (spoil_far9 Bf _ nd f.dat _ HOF.out hzf).mono ?_
      rintro e w2 ⟨rfl, ht2⟩
      rw [← HVD.out] at ht2
      have ho2 : w2.ownsRow 0 59 2 (.slice (some ⟨g, 0, none⟩) n c) n (cellsF ys) := own_kept HO.out fun k' hk' hl' => ht2.block k' hl' fun e => by cases hk'; exact HGD.out e
      have f0 := ho2.frozenAt (k * 2)
      have f1 := ho2.frozenAt (k * 2 + 1)
      have q0 : w2.cell? ⟨g, k * 2, none⟩ = some (.string f.nm) := (ho2.cellAt (k * 2) (by omega)).trans HG0.out
      have q1 : w2.cell? ⟨g, k * 2 + 1, none⟩ = some (.slice Ad nd cd) := (ho2.cellAt (k * 2 + 1) (by omega)).trans (HG1.out.trans (by rw [HVD.out]))
      have HO2 := Lib.hid ho2
      have HT2 := Lib.hid ht2
      have hlen2 : (cellsF ys).length = n * 2 := hfl
      clear ho2 ht2 e1
      go_wp2_with fail
      go_roundw
      case rel =>
        have s1 := (HO2.out.stored (k * 2) (.string ⟨#[115, 112, 111, 105, 108, 116]⟩)).1
        have s2 := (s1.stored (k * 2 + 1) (.slice none 0 0)).1
        rw [cellsF_set (by rw [HY.out]; exact hlt) ⟨⟨#[115, 112, 111, 105, 108, 116]⟩, [], .slice none 0 0⟩] at s2
        have hSg : S g := HS.out g (.inl rfl)
        have hT2 : Touch S w w2 := HT.out.trans (HT2.out.mono fun k' hk' => HS.out k' (.inr ⟨f, List.mem_of_getElem? HF.out, hk'⟩)) (fun k' hk' => .inl hk')
        refine ⟨k + 1, ys.set k ⟨⟨#[115, 112, 111, 105, 108, 116]⟩, [], .slice none 0 0⟩, by go_num, by omega, s2, by show _ = n; rw [List.length_set]; exact HY.out, fun j hj => ?_, fun j f' hj hf' => ?_, (hT2.set (.inl hSg) _).set (.inl hSg) _⟩
        · rw [List.getElem?_set_ne (by omega)]
          exact HYL.out j (by omega)
        · obtain ⟨B', ho'⟩ := HR.out j f' (by omega) hf'
          have ho2' : w2.ownsRow B' 5 1 f'.v f'.dat.length (u8s f'.dat) := own_kept ho' fun k' hk' hl' => HT2.out.block k' hl' fun e => HTW.out k j f f' (by omega) HF.out hf' k' e hk'
          refine ⟨B', own_kept (own_kept ho2' fun k' hk' _ => heap_setCell_other _ ⟨g, k * 2, none⟩ k' _ fun e => ?_) fun k' hk' _ => heap_setCell_other _ ⟨g, k * 2 + 1, none⟩ k' _ fun e => ?_⟩
          · exact HAP.out f' (List.mem_of_getElem? hf') k' hk' (by rw [e]; rfl)
          · exact HAP.out f' (List.mem_of_getElem? hf') k' hk' (by rw [e]; rfl)
      case measure => simp [intOf]; omega
    · have i1 : ¬ ((k : Int) < (n : Int)) := by omega
      obtain rfl : k = n := by omega
      obtain ⟨w2, hw2⟩ : ∃ w2, w2 = wr.alloc (.cells #[.string ByteArray.empty, .slice none 0 0] 59) := ⟨_, rfl⟩
      have hb2 : Below wr.heap.size wr w2 := by rw [hw2]; exact (Below.refl _ _).alloc (Nat.le_refl _) _
      have hgx : w2.heap[wr.heap.size]? = some (.cells ([.string ByteArray.empty, .slice none 0 0] : List Value).toArray 59 (0, 0)) := by rw [hw2]; exact heap_alloc_new wr _
      obtain ⟨A3, c3, w3, hrun, hown3, hg3, _⟩ := run_app_elem (P := Try.prog) w2 22 22 0 59 _ 2 40 Try.underlying22 info_afile rfl (by decide) (by decide) _ k _ (ownS_below HO.out hb2) wr.heap.size [.string ByteArray.empty, .slice none 0 0] rfl hgx (by simp; exact ⟨rfl, rfl⟩) (by omega) (Nat.zero_le _)
      rw [hw2] at hrun
      have HRUN := Lib.hid hrun
      have HT3 : Hid (Touch S w w3) := (HT.out.then hb2).trans (Touch.grown (F := S) hg3 (fun k' e => HS.out k' (.inl e))) (fun k' hf => .inl hf)
      clear hrun hown3 hg3 hgx hb2 hw2
      go_wp2_with (at_builtin; refine wpList_app_run _ rfl _ _ 22 22 rfl rfl rfl HRUN.out ?_)
      go_end0
      exact ⟨rfl, HT3.out⟩

end Go.Proofs.Ytejfilphnebckaa
