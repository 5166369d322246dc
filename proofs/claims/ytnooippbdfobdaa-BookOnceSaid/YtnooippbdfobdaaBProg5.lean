/-
  Package book as landed answers as the document says, call by call.
-/
import Derived.Test.YtnooippbdfobdaaBDigest
namespace Go.Proofs.Ytnooippbdfobdaa
open Go.RowKit Go.Maps Go.WideMaps

theorem map_nil (w : World) : (binOp BinOp.eql 51 (.map none) (.map none)).run Try.prog w = .ok (.bool true) w := by kernel_rfl
theorem map_some (b : Nat) (w : World) : (binOp BinOp.eql 51 (.map (some b)) (.map none)).run Try.prog w = .ok (.bool false) w := by kernel_rfl

theorem given_kept {w w' : World} {F : Nat → Prop} {A : Option Addr} {c n : Nat} {x : List Int} (h : Given w F A c n x) (ht : Touch F w w') : Rd w' A (u8s x) := by
  rcases Nat.eq_zero_or_pos n with h0 | h0
  · have : x = [] := List.eq_nil_of_length_eq_zero (by rw [h.hz]; exact h0)
    subst this
    exact Rd.nil _ _
  · exact h.hr.kept ht.size fun a ha hl => ht.block _ hl (h.apart a ha h0)
theorem one_ent {s : ByteArray} (u : Value) (hu : u ∈ [Value.string s, .slice none 0 0]) : u.oneCell' = true := by
  simp at hu
  rcases hu with rfl | rfl <;> rfl

set_option maxHeartbeats 4000000 in
theorem pdigest_new {F : Nat → Prop} (g : Nat) (L : List (List Int)) (S : List (Int × Int)) (A : Option Addr) (c n : Nat) (x : List Int) (w : World) (h : IsBook w g F L S) (hG : Given w F A c n x) (hL : L.length ≤ 1000) (hf : findB L x = 0) :
    Calls Try.prog 20 #[.pointer (some ⟨g, 0, none⟩), .slice A n c] w fun e w' => e = .returned (.tuple #[.int .i64 ((L.length + 1 : Nat) : Int), .int .i64 0]) ∧ BookTo IsBook g F (L ++ [x]) S w w' := by
  have HI := Lib.hid h
  obtain ⟨m, vE, vs, h⟩ := h
  obtain ⟨nL, hnL⟩ : ∃ nL, L.length = nL := ⟨_, rfl⟩
  have HF := Lib.hid hf
  have HNL := Lib.hid hnL
  have HG := Lib.hid hG
  have HH := Lib.hid h
  have rE := h.rE
  have hxl : x.length ≤ 1000000 := by have := hG.hn; have := hG.hz; omega
  have HXL := Lib.hid hxl
  have HXM : Hid (x.length ≤ maxLen) := by show x.length ≤ maxLen; unfold maxLen; omega
  have HML : Hid (L.length < maxLen) := by show L.length < maxLen; unfold maxLen; omega
  rw [hnL] at rE hL
  have n1 : ((nL : Int) == 65536) = false := by simp; omega
  have HN63 : Hid (nL + 1 ≤ maxLen) := by show nL + 1 ≤ maxLen; unfold maxLen; omega
  have HN47 : Hid ((nL + 1) * 40 ≤ 140737488355328) := by show (nL + 1) * 40 ≤ 140737488355328; omega
  obtain ⟨nN, hnN⟩ : ∃ nN, nL + 1 = nN := ⟨_, rfl⟩
  have HNN := Lib.hid hnN
  have HLN : Hid (L.length + 1 = nN) := by show L.length + 1 = nN; omega
  have HWF : Hid ((Lit.int .i64 (nN : Int)).wf = true) := WalkArith.wf_i64 (by omega)
  obtain ⟨AE, cE, rfl, _, _, _, _, _⟩ := ownS_slice rE
  have c0 := h.c0
  have c1 := h.c1
  have f0 := h.f0
  have hmm := @run_makeMap Try.prog
  have hm0 := map_nil
  have hm1 := map_some
  obtain ⟨i0, hi, hz0, hz1, hz2⟩ := info_parts info_ent
  have HGL := Lib.hid (h.lt g h.here)
  clear h hf hnL hG rE hxl hL hnN
  cases m with
  | none =>
    have HR := fun d => ready_new HH.out d
    have c0a : ∀ d o, ((w.drewN d).alloc o).cell? ⟨g, 0, none⟩ = some (.map none) := fun d o => (((Below.refl w.heap.size (w.drewN d)).alloc (Nat.le_refl _) o).cell (p := ⟨g, 0, none⟩) HGL.out).trans c0
    have f0a : ∀ d o, ((w.drewN d).alloc o).frozen? ⟨g, 0, none⟩ = false := fun d o => (((Below.refl w.heap.size (w.drewN d)).alloc (Nat.le_refl _) o).frozen (p := ⟨g, 0, none⟩) HGL.out).trans f0
    go_enter Try.func20, Try.ntmps20
    go_wp2_with fail
    refine (pfind_any g L S A c n x _ HI.out HG.out).mono ?_
    rintro e w' ⟨rfl, d, rfl⟩
    have hv : findV (findB L x) = .tuple #[.int .i64 0, .int .i64 3] := by rw [HF.out]; rfl
    rw [hv]
    clear hv
    go_wp2_with fail
    refine (pcount_cell g nL cE AE (w.drewN d) c1).mono ?_
    rintro e w' ⟨rfl, rfl⟩
    go_upto_region 8 with fail
    obtain ⟨wa, hwa⟩ : ∃ wa, wa = ((w.drewN d).alloc (.map #[] 0)).setCell ⟨g, 0, none⟩ (.map (some w.heap.size)) := ⟨_, rfl⟩
    obtain ⟨Fa, HRa⟩ : ∃ Fa, Hid (Ready w g F L S w.heap.size (.slice AE nL cE) vs wa Fa) := ⟨_, by rw [hwa]; exact HR d⟩
    rw [← hwa]
    clear hwa c0a f0a
    obtain ⟨bm, hbm⟩ : ∃ bm, bm = w.heap.size := ⟨_, rfl⟩
    rw [← hbm] at HRa ⊢
    clear hbm
    obtain ⟨hB, ht, hFa⟩ := HRa.out
    have hcv := conv_any wa HG.out.hz (given_kept HG.out ht) c
    have hm : ∃ D, wa.ownsMap Try.prog 9 (plainElem Try.prog 3) bm L.length D ∧ Digs D L := by
      rcases hB.mp with ⟨e, _⟩ | ⟨b, D, e, _, _, _, h5, h6⟩
      · cases e
      · cases e; exact ⟨D, h5, h6⟩
    obtain ⟨D, hmD, hdD⟩ := hm
    have HMD := Lib.hid hmD
    have HDD := Lib.hid hdD
    have c1a := hB.c1
    have f1a := hB.f1
    have hgla := hB.lt g hB.here
    have hvg : (Value.slice AE nL cE).ownBlock ≠ some g := fun e => (hB.fE g e).2 rfl
    have HRE : Hid (wa.ownsRow 0 59 2 (.slice AE nL cE) nL (ents L vs)) := by have := hB.rE; rwa [HNL.out] at this
    have HBB := Lib.hid hB
    clear c0 c1 f0 HR hB ht hFa hmD hdD HGL
    go_wp2_with (at_builtin; refine wpList_append_lies _ rfl _ _ 52 rfl 0 59 i0 (.agg #[.string ByteArray.empty, .slice none 0 0]) 2 40 Try.underlying52 hi hz0 hz1 hz2 rfl (by decide) (.slice AE nL cE) nL (ents L vs) rfl (HRE.out.alloc _) ⟨wa.heap.size, 0, none⟩ 1 1 [.string (strOfNums x), .slice none 0 0] rfl rfl (fun j u hj => by rw [Addr.add_lit, Nat.zero_add]; exact cells_new wa [.string (strOfNums x), .slice none 0 0] _ j u hj) (fun u hu => one_ent u hu) (by decide) HN63.out HN47.out (Nat.zero_le _) _ rfl ?_)
    intro g' c' w2 ho2 hg2 hat2 _
    have hX : Below wa.heap.size wa (wa.alloc (.cells #[.string (strOfNums x), .slice none 0 0] 59)) := (Below.refl _ _).alloc (Nat.le_refl _) _
    have hat3 : (Value.slice AE nL cE).ownBlock = some g' ∨ wa.heap.size ≤ g' := hat2.imp id (fun e => by rw [e]; simp)
    have hG0 := grown_of HBB.out HMD.out hX hg2 ho2 hat3
    have hG7 := grown_far hX hg2
    have q1 := (World.cell?_of_block (a := ⟨g, 1, none⟩) (hG7.2.1 g hgla hvg)).trans c1a
    have qf := (World.frozen?_of_block (a := ⟨g, 1, none⟩) (hG7.2.1 g hgla hvg)).trans f1a
    clear c1a f1a hG7 hat2 hat3 hX hg2 ho2 hcv
    go_upto_region 10 with fail
    generalize hw3 : w2.setCell ⟨g, 1, none⟩ (.slice (some ⟨g', 0, none⟩) (nL + 1) c') = w3 at hG0 ⊢
    rw [HNN.out] at hG0
    have HG0 := Lib.hid hG0
    have k0 := hG0.c0
    have k1 := hG0.c1
    clear hG0 hw3 q1 qf
    obtain ⟨w4, hrun, hm4, hg4⟩ := World.ownsMap.update (w := w3.drew) (map_kept HG0.out.map rfl) str_keyed Try.underlying51 HML.out (keyB_of HXM.out) (plainElem_int Try.underlying3 HWF.out)
    have hg5 : w3.grownBy w4 (some bm) := ⟨hg4.os, hg4.tape, hg4.output, hg4.size, hg4.block⟩
    go_region_law (first
      | (refine step_count (by rfl) (by rfl) (by rfl) (pcount_cell g nN c' _ _ (by first | exact k1 | exact (HG0.out.c1))) ?_; rintro e w5 ⟨rfl, rfl⟩; refine ⟨_, rfl, ?_⟩))
    all_goals
      obtain ⟨hT, k4⟩ := HG0.out.book HBB.out HLN.out HG.out.hy HXL.out HDD.out HF.out hg5 hm4
      have HT := Lib.hid (BookTo.after HRa.out hT)
      clear hT hm4 hg4 hg5 k0 k1 hrun
      go_wp2_with fail
      refine (pcount_cell g nN c' _ _ k4).mono ?_
      rintro e w' ⟨rfl, rfl⟩
      go_wp2_with fail
      go_ret2
      exact ⟨by rw [HLN.out]; rfl, HT.out⟩
  | some bm =>
    have HR := fun d => ready_of HH.out d
    go_enter Try.func20, Try.ntmps20
    go_wp2_with fail
    refine (pfind_any g L S A c n x _ HI.out HG.out).mono ?_
    rintro e w' ⟨rfl, d, rfl⟩
    have hv : findV (findB L x) = .tuple #[.int .i64 0, .int .i64 3] := by rw [HF.out]; rfl
    rw [hv]
    clear hv
    go_wp2_with fail
    refine (pcount_cell g nL cE AE (w.drewN d) c1).mono ?_
    rintro e w' ⟨rfl, rfl⟩
    go_upto_region 8 with fail
    obtain ⟨wa, hwa⟩ : ∃ wa, wa = w.drewN d := ⟨_, rfl⟩
    obtain ⟨Fa, HRa⟩ : ∃ Fa, Hid (Ready w g F L S bm (.slice AE nL cE) vs wa Fa) := ⟨_, by rw [hwa]; exact HR d⟩
    rw [← hwa]
    clear hwa
    obtain ⟨hB, ht, hFa⟩ := HRa.out
    have hcv := conv_any wa HG.out.hz (given_kept HG.out ht) c
    have hm : ∃ D, wa.ownsMap Try.prog 9 (plainElem Try.prog 3) bm L.length D ∧ Digs D L := by
      rcases hB.mp with ⟨e, _⟩ | ⟨b, D, e, _, _, _, h5, h6⟩
      · cases e
      · cases e; exact ⟨D, h5, h6⟩
    obtain ⟨D, hmD, hdD⟩ := hm
    have HMD := Lib.hid hmD
    have HDD := Lib.hid hdD
    have c1a := hB.c1
    have f1a := hB.f1
    have hgla := hB.lt g hB.here
    have hvg : (Value.slice AE nL cE).ownBlock ≠ some g := fun e => (hB.fE g e).2 rfl
    have HRE : Hid (wa.ownsRow 0 59 2 (.slice AE nL cE) nL (ents L vs)) := by have := hB.rE; rwa [HNL.out] at this
    have HBB := Lib.hid hB
    clear c0 c1 f0 HR hB ht hFa hmD hdD HGL
    go_wp2_with (at_builtin; refine wpList_append_lies _ rfl _ _ 52 rfl 0 59 i0 (.agg #[.string ByteArray.empty, .slice none 0 0]) 2 40 Try.underlying52 hi hz0 hz1 hz2 rfl (by decide) (.slice AE nL cE) nL (ents L vs) rfl (HRE.out.alloc _) ⟨wa.heap.size, 0, none⟩ 1 1 [.string (strOfNums x), .slice none 0 0] rfl rfl (fun j u hj => by rw [Addr.add_lit, Nat.zero_add]; exact cells_new wa [.string (strOfNums x), .slice none 0 0] _ j u hj) (fun u hu => one_ent u hu) (by decide) HN63.out HN47.out (Nat.zero_le _) _ rfl ?_)
    intro g' c' w2 ho2 hg2 hat2 _
    have hX : Below wa.heap.size wa (wa.alloc (.cells #[.string (strOfNums x), .slice none 0 0] 59)) := (Below.refl _ _).alloc (Nat.le_refl _) _
    have hat3 : (Value.slice AE nL cE).ownBlock = some g' ∨ wa.heap.size ≤ g' := hat2.imp id (fun e => by rw [e]; simp)
    have hG0 := grown_of HBB.out HMD.out hX hg2 ho2 hat3
    have hG7 := grown_far hX hg2
    have q1 := (World.cell?_of_block (a := ⟨g, 1, none⟩) (hG7.2.1 g hgla hvg)).trans c1a
    have qf := (World.frozen?_of_block (a := ⟨g, 1, none⟩) (hG7.2.1 g hgla hvg)).trans f1a
    clear c1a f1a hG7 hat2 hat3 hX hg2 ho2 hcv
    go_upto_region 10 with fail
    generalize hw3 : w2.setCell ⟨g, 1, none⟩ (.slice (some ⟨g', 0, none⟩) (nL + 1) c') = w3 at hG0 ⊢
    rw [HNN.out] at hG0
    have HG0 := Lib.hid hG0
    have k0 := hG0.c0
    have k1 := hG0.c1
    clear hG0 hw3 q1 qf
    obtain ⟨w4, hrun, hm4, hg4⟩ := World.ownsMap.update (w := w3.drew) (map_kept HG0.out.map rfl) str_keyed Try.underlying51 HML.out (keyB_of HXM.out) (plainElem_int Try.underlying3 HWF.out)
    have hg5 : w3.grownBy w4 (some bm) := ⟨hg4.os, hg4.tape, hg4.output, hg4.size, hg4.block⟩
    go_region_law (first
      | (refine step_count (by rfl) (by rfl) (by rfl) (pcount_cell g nN c' _ _ (by first | exact k1 | exact (HG0.out.c1))) ?_; rintro e w5 ⟨rfl, rfl⟩; refine ⟨_, rfl, ?_⟩))
    all_goals
      obtain ⟨hT, k4⟩ := HG0.out.book HBB.out HLN.out HG.out.hy HXL.out HDD.out HF.out hg5 hm4
      have HT := Lib.hid (BookTo.after HRa.out hT)
      clear hT hm4 hg4 hg5 k0 k1 hrun
      go_wp2_with fail
      refine (pcount_cell g nN c' _ _ k4).mono ?_
      rintro e w' ⟨rfl, rfl⟩
      go_wp2_with fail
      go_ret2
      exact ⟨by rw [HLN.out]; rfl, HT.out⟩

theorem bookC : BookC IsBook where
  lt := fun h => h.lt
  kept := fun h hs hk => h.kept hs hk
  new := pnew_any
  digest_old := fun g L S A c n k x w h hG _ hf => pdigest_old g L S A c n k x w h hG hf
  digest_new := fun g L S A c n x w h hG hL hf => pdigest_new g L S A c n x w h hG hL hf
  find_yes := fun g L S A c n k x w h hG _ hf => (pfind_any g L S A c n x w h hG).mono fun _ _ ⟨he, d, hw⟩ => ⟨by rw [he, hf]; rfl, by rw [hw]; exact bookTo_n h d⟩
  find_no := fun g L S A c n x w h hG _ hf => (pfind_any g L S A c n x w h hG).mono fun _ _ ⟨he, d, hw⟩ => ⟨by rw [he, hf]; rfl, by rw [hw]; exact bookTo_n h d⟩
  bytes_yes := fun g L S k n x w h hx hz hL => pbytes_yes g L S k n x w h hx hz hL
  bytes_no := fun g L S d w h hd _ => (pbytes_no g L S d w h hd).mono fun _ _ ⟨he, hw⟩ => ⟨he, bookTo_same h hw⟩
  count := fun g L S w h _ => by
    obtain ⟨m, vE, vs, h⟩ := h
    have c1 := h.c1
    obtain ⟨AE, cE, rfl, _, _, _, _, _⟩ := ownS_slice h.rE
    exact (pcount_cell g L.length cE AE w c1).mono fun _ _ ⟨he, hw⟩ => ⟨he, 0, hw.symm⟩
  sign_form := fun g L S who d w h _ _ hw => (psign_form g L S who d w h hw).mono fun _ _ ⟨he, hw⟩ => ⟨he, bookTo_same h hw⟩
  sign_none := fun g L S who d w h _ _ hw hd => (psign_none g L S who d w h hw hd).mono fun _ _ ⟨he, hw⟩ => ⟨he, bookTo_same h hw⟩
  sign_ok := fun g L S who d w h hL hS hw hd => psign_ok g L S who d w h hL hS hw hd
  signed := fun g L S who d w h hL hS _ _ => (psigned_any g L S who d w h hL hS).mono fun _ _ ⟨he, hw⟩ => ⟨he, 0, hw.symm⟩

end Go.Proofs.Ytnooippbdfobdaa
