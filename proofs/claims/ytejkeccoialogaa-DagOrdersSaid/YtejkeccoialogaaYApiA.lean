/-
  Package dag's Top, Round, Lacks.
-/
import Derived.Test.YtejkeccoialogaaYChk
import Derived.Test.YtejkeccoialogaaYClone
namespace Go.Proofs.Ytejkeccoialogaa
open Go.RowKit

theorem boxes1 (w : World) (c1 : List Value) (t1 : TypeId) {w1 : World} (h : w1 = w.alloc (.cells c1.toArray t1)) : Below w.heap.size w w1 ∧ w1.heap.size = w.heap.size + 1 ∧ Box w1 w.heap.size c1 := by
  subst h
  exact ⟨(Below.refl _ _).alloc (Nat.le_refl _) _, by simp, box_new _ _ _⟩
theorem boxes2 (w : World) (c1 : List Value) (t1 : TypeId) (c2 : List Value) (t2 : TypeId) {w1 : World} (h : w1 = (w.alloc (.cells c1.toArray t1)).alloc (.cells c2.toArray t2)) :
    Below w.heap.size w w1 ∧ w1.heap.size = w.heap.size + 2 ∧ Box w1 w.heap.size c1 ∧ Box w1 (w.heap.size + 1) c2 := by
  obtain ⟨v, hv⟩ : ∃ v, v = w.alloc (.cells c1.toArray t1) := ⟨_, rfl⟩
  rw [← hv] at h
  obtain ⟨a1, a2, a3⟩ := boxes1 w c1 t1 hv
  obtain ⟨b1, b2, b3⟩ := boxes1 v c2 t2 h
  rw [a2] at b3
  exact ⟨a1.trans (b1.mono a1.size), by omega, a3.below b1 a3.1, b3⟩
theorem boxes3 (w : World) (c1 : List Value) (t1 : TypeId) (c2 : List Value) (t2 : TypeId) (c3 : List Value) (t3 : TypeId) {w1 : World} (h : w1 = ((w.alloc (.cells c1.toArray t1)).alloc (.cells c2.toArray t2)).alloc (.cells c3.toArray t3)) :
    Below w.heap.size w w1 ∧ w1.heap.size = w.heap.size + 3 ∧ Box w1 w.heap.size c1 ∧ Box w1 (w.heap.size + 1) c2 ∧ Box w1 (w.heap.size + 2) c3 := by
  obtain ⟨v, hv⟩ : ∃ v, v = (w.alloc (.cells c1.toArray t1)).alloc (.cells c2.toArray t2) := ⟨_, rfl⟩
  rw [← hv] at h
  obtain ⟨a1, a2, a3, a4⟩ := boxes2 w c1 t1 c2 t2 hv
  obtain ⟨b1, b2, b3⟩ := boxes1 v c3 t3 h
  rw [a2] at b3
  exact ⟨a1.trans (b1.mono a1.size), by omega, a3.below b1 a3.1, a4.below b1 a4.1, b3⟩

/-! ### Top -/
def topC (l : List CrtD) : Int := match l[l.length - 1]? with
  | none => 0
  | some x => x.r
/-! ### Round -/
def RoundOk (l : List CrtD) (R : Int) (w : World) (en : Ending) (w' : World) : Prop := ∃ o' ms', en = .returned (.tuple #[.slice o'.A o'.n o'.c, .int .i64 0]) ∧ OwnY w.heap.size w' o' ms' ∧ ms'.map Prod.fst = inR l R ∧ Below w.heap.size w w'
set_option maxRecDepth 100000 in
set_option maxHeartbeats 2000000 in
theorem round_ok (N L R : Int) (o : Ad) (l : List CrtD) (w : World) (h : GIn w o l) (hm : MayG N L l) :
    Calls Try.prog 65 #[dagV N L o, .int .i64 R] w (RoundOk l R w) := by
  obtain ⟨g, hg⟩ : ∃ g, g = w.heap.size := ⟨_, rfl⟩
  obtain ⟨w1, hw1⟩ : ∃ w1, w1 = (w.alloc (.cells (dagC N L o).toArray 24)) := ⟨_, rfl⟩
  obtain ⟨hb1, hsz, hx0⟩ := boxes1 w _ _ hw1
  rw [← hg] at hb1 hsz hx0
  have HG : Hid (w.heap.size = g) := hg.symm
  have HW : Hid ((w.alloc (.cells #[.int .i64 N, .int .i64 L, .slice o.A o.n o.c] 24)) = w1) := hw1.symm
  have HIN : Hid (∀ wX, Below g w wX → GIn wX o l) := fun wX hb => h.below (by rw [← hg]; exact hb)
  have HB := Lib.hid hb1
  have HSZ := Lib.hid hsz
  have HX0 := Lib.hid hx0
  have HC := Lib.hid (check_ok (HIN.out _ hb1) hm)
  have HR : Hid (∀ w2, Below w1.heap.size w1 w2 → Calls Try.prog 85 #[dagV N L o, .int .i64 R] w2 (RoundTo w2 l R)) := fun w2 hb2 => by
    obtain ⟨ms, hr, hl⟩ := HIN.out w2 (HB.out.trans (hb2.mono (by have := HSZ.out; omega)))
    exact inRound_is N L R o ms l w2 hr hl hm.asc
  obtain ⟨d0, d1, d2⟩ := dag_cells hx0
  have HD : Hid (∀ wX, Below w1.heap.size w1 wX → wX.cell? ⟨g, 0, none⟩ = some (.int .i64 N) ∧ wX.cell? ⟨g, 1, none⟩ = some (.int .i64 L) ∧ wX.cell? ⟨g, 2, none⟩ = some (.slice o.A o.n o.c)) := fun wX hb => dag_cells (HX0.out.below hb HX0.out.1)
  clear hg hw1 hb1 hsz hx0 h hm
  have hgs := HX0.out.1
  unfold dagV at HC HR ⊢
  go_enter Try.func65, Try.ntmps65
  go_upto_region 1 with fail
  rw [HG.out, HW.out]
  go_wp2_with (first
    | (go_at_call 21; refine HC.out.mono ?_; rintro e w2 ⟨rfl, hb2⟩; obtain ⟨d3, d4, d5⟩ := HD.out w2 hb2)
    | (go_at_call 85; refine (HR.out _ hb2).mono ?_; rintro e w3 ⟨⟨A3, n3, q3⟩, ms3, rfl, hr3, hl3, hb3⟩)
    | (go_at_call 56; refine (clones_is ⟨A3, n3, q3⟩ (inR l R) _ ⟨ms3, hr3.below hb3, hl3⟩).mono ?_; rintro e w4 ⟨o4, ms4, rfl, ho4, hl4, hb4⟩))
  have hs2 := hb2.size
  have hs3 := hb3.size
  go_ret2
  refine ⟨o4, ms4, rfl, ho4.more (by rw [HG.out]; omega), hl4, ?_⟩
  rw [HG.out]
  exact HB.out.trans ((hb2.mono (by omega)).trans ((hb3.mono (by omega)).trans (hb4.mono (by omega))))
set_option maxRecDepth 100000 in
set_option maxHeartbeats 2000000 in
theorem round_bad (N L R : Int) (o : Ad) (l : List CrtD) (w : World) (h : GIn w o l) (hm : ¬ MayG N L l) :
    Calls Try.prog 65 #[dagV N L o, .int .i64 R] w fun e w' => e = .returned (.tuple #[.slice none 0 0, .int .i64 1]) ∧ Below w.heap.size w w' := by
  obtain ⟨g, hg⟩ : ∃ g, g = w.heap.size := ⟨_, rfl⟩
  obtain ⟨w1, hw1⟩ : ∃ w1, w1 = (w.alloc (.cells (dagC N L o).toArray 24)) := ⟨_, rfl⟩
  obtain ⟨hb1, hsz, hx0⟩ := boxes1 w _ _ hw1
  rw [← hg] at hb1 hsz hx0
  have HG : Hid (w.heap.size = g) := hg.symm
  have HW : Hid ((w.alloc (.cells #[.int .i64 N, .int .i64 L, .slice o.A o.n o.c] 24)) = w1) := hw1.symm
  have HIN : Hid (∀ wX, Below g w wX → GIn wX o l) := fun wX hb => h.below (by rw [← hg]; exact hb)
  have HB := Lib.hid hb1
  have HSZ := Lib.hid hsz
  have HX0 := Lib.hid hx0
  have HC := Lib.hid (check_bad (HIN.out _ hb1) hm)
  obtain ⟨d0, d1, d2⟩ := dag_cells hx0
  clear hg hw1 hb1 hsz hx0 h hm
  rw [HG.out]
  unfold dagV at HC ⊢
  have hgs := HX0.out.1
  go_enter Try.func65, Try.ntmps65
  go_upto_region 1 with fail
  rw [HG.out, HW.out]
  go_wp2_with (go_at_call 21; refine HC.out.mono ?_; rintro e w2 ⟨rfl, hb2⟩)
  go_ret2
  exact ⟨rfl, HB.out.trans (hb2.mono (by omega))⟩

/-! ### Lacks -/
def LacksOk (z : List Int) (w : World) (en : Ending) (w' : World) : Prop := ∃ o' : Ad, en = .returned (.tuple #[.slice o'.A o'.n o'.c, .int .i64 0]) ∧ w'.ownsRow w.heap.size 3 1 o'.v o'.n (i64s z) ∧ z.length = o'.n ∧ Below w.heap.size w w'
end Go.Proofs.Ytejkeccoialogaa
