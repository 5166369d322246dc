/-
  Messages: copies.
-/
import Derived.Test.YtcfnomnhameleaaZE
import Derived.Deep.DeepCutAuto
import Derived.Deep.CutRange
import Derived.Deep.RegionLaw
namespace Go.Proofs.Ytcfnomnhameleaa
open Go.RowKit

/-! ### copies -/
set_option maxHeartbeats 4000000 in
theorem rcopyBat_any (a N : Int) (A : Option Addr) (c n : Nat) (L : List TxD) (w : World) (hz : L.length = n) (hr : Rd w A (txs L)) (hc : n ≤ c) (hn : n ≤ 1073741824) :
    Calls Try.prog 35 #[.agg #[.int .i64 a, .int .i64 N, .slice A n c]] w fun e w' => ∃ A' c', e = .returned (.agg #[.int .i64 a, .int .i64 N, .slice A' n c']) ∧
      w'.ownsRow w.heap.size 99 4 (.slice A' n c') n (txs L) ∧ n ≤ c' ∧ c' ≤ maxLen ∧ Rd w' A' (txs L) ∧ Below w.heap.size w w' := by
  have HZ := Lib.hid hz
  clear hz
  go_enter Try.func35, Try.ntmps35
  go_wp2_with fail
  refine (copyTxs_any A c n L _ HZ.out (((hr.alloc _).alloc _).alloc _) hc hn).mono ?_
  rintro e w1 ⟨v, rfl, hob, hb⟩
  obtain ⟨A', c', rfl, hc', hm', _, _, _⟩ := ownS_slice hob
  obtain ⟨hcc, hff⟩ := bcellH hb
  have hz : w.heap.size + 1 + 1 < w1.heap.size := by have := hb.size; simp at this; omega
  have hz1 : w.heap.size + 1 < w1.heap.size := by omega
  have hb3 : Below w.heap.size w w1 := ((((Below.refl _ _).alloc (Nat.le_refl _) _).alloc (by simp) _).alloc (by simp; omega) _).trans (hb.mono (by simp; omega))
  have hb4 : Below w.heap.size w (w1.setCell ⟨w.heap.size + 1 + 1, 2, none⟩ (.slice A' n c')) := hb3.setCell (by show w.heap.size ≤ w.heap.size + 1 + 1; omega) _
  go_wp2_with fail
  have hown : ∀ u0 u1 u2, ((((w1.setCell ⟨w.heap.size + 1 + 1, 2, none⟩ (.slice A' n c')).setCell ⟨w.heap.size + 1, 0, none⟩ u0).setCell ⟨w.heap.size + 1, 1, none⟩ u1).setCell ⟨w.heap.size + 1, 2, none⟩ u2).ownsRow w.heap.size 99 4 (.slice A' n c') n (txs L) := fun u0 u1 u2 =>
    ownS_more (ownsRow_setCell_below (ownsRow_setCell_below (ownsRow_setCell_below (ownsRow_setCell_below hob (by simp) _) (by simp) _) (by simp) _) (by simp) _) (by simp; omega)
  refine bodyPost_ret (v := .agg #[.int .i64 a, .int .i64 N, .slice A' n c']) (by simp [results, Try.results35, go_sem, hcc]) rfl ⟨A', c', rfl, hown _ _ _, hc', hm', ?_, ?_⟩
  · obtain ⟨_, _, e, _, _, hr', _, _⟩ := ownS_slice (hown _ _ _)
    cases e
    exact hr'
  · exact ((hb4.setCell (by simp) _).setCell (by simp) _).setCell (by simp) _


/-- a row stands when only other blocks turn -/
theorem own_touch {F : Nat → Prop} {w w' : World} {B s n : Nat} {e : TypeId} {v : Value} {xs : List Value} (h : w.ownsRow B e s v n xs) (ht : Touch F w w') (hF : ∀ k, F k → k < B) : w'.ownsRow B e s v n xs :=
  own_kept h fun g hg hl => ht.block g hl fun hf => by have := (own_lt h hg).2; have := hF g hf; omega
theorem Touch.on {F : Nat → Prop} {w w' w'' : World} (h : Touch F w w') (k : Touch F w' w'') : Touch F w w'' := h.trans k fun _ h => .inl h
theorem Box.touch {F : Nat → Prop} {w w' : World} {g : Nat} {vs : List Value} (h : Box w g vs) (ht : Touch F w w') (hg : ¬ F g) : Box w' g vs :=
  ⟨by have := ht.size; have := h.1; omega, fun i v hv => ⟨(ht.cell h.1 hg).trans (h.2 i v hv).1, (ht.frozen h.1 hg).trans (h.2 i v hv).2⟩⟩
theorem rd_of_own {w : World} {B n c : Nat} {e : TypeId} {A : Option Addr} {xs : List Value} (h : w.ownsRow B e 1 (.slice A n c) n xs) : n ≤ c ∧ c ≤ maxLen ∧ Rd w A xs := by
  obtain ⟨_, _, e, h1, h2, h3, _, _⟩ := own_val h
  cases e
  exact ⟨h1, h2, h3⟩
theorem rd_of_ownS {w : World} {B n c s : Nat} {e : TypeId} {A : Option Addr} {xs : List Value} (h : w.ownsRow B e s (.slice A n c) n xs) : n ≤ c ∧ c ≤ maxLen ∧ Rd w A xs := by
  obtain ⟨_, _, e, h1, h2, h3, _, _⟩ := ownS_slice h
  cases e
  exact ⟨h1, h2, h3⟩

/-- a message whose lists lie in rows of their own, the digests apart from the others -/
structure MsgNew (B : Nat) (w : World) (m : MsgD) (a : MsgA) : Prop where
  oL : w.ownsRow B 99 4 (.slice a.AL a.nL a.cL) a.nL (txs m.L)
  ohB : w.ownsRow B 3 1 (.slice a.AhB a.nhB a.chB) a.nhB (i64s m.hB)
  ohP : w.ownsRow B 3 1 (.slice a.AhP a.nhP a.chP) a.nhP (i64s m.hP)
  ocB : w.ownsRow B 3 1 (.slice a.AcB a.ncB a.ccB) a.ncB (i64s m.cB)
  ocP : w.ownsRow B 3 1 (.slice a.AcP a.ncP a.ccP) a.ncP (i64s m.cP)
  ocS : w.ownsRow B 3 1 (.slice a.AcS a.ncS a.ccS) a.ncS (i64s m.cS)
  oD : w.ownsRow B 3 1 (.slice a.AD a.nD a.cD) a.nD (i64s m.D)
  aL : ∀ k, (Value.slice a.AD a.nD a.cD).ownBlock = some k → (Value.slice a.AL a.nL a.cL).ownBlock ≠ some k
  ahB : ∀ k, (Value.slice a.AD a.nD a.cD).ownBlock = some k → (Value.slice a.AhB a.nhB a.chB).ownBlock ≠ some k
  ahP : ∀ k, (Value.slice a.AD a.nD a.cD).ownBlock = some k → (Value.slice a.AhP a.nhP a.chP).ownBlock ≠ some k
  acB : ∀ k, (Value.slice a.AD a.nD a.cD).ownBlock = some k → (Value.slice a.AcB a.ncB a.ccB).ownBlock ≠ some k
  acP : ∀ k, (Value.slice a.AD a.nD a.cD).ownBlock = some k → (Value.slice a.AcP a.ncP a.ccP).ownBlock ≠ some k
  acS : ∀ k, (Value.slice a.AD a.nD a.cD).ownBlock = some k → (Value.slice a.AcS a.ncS a.ccS).ownBlock ≠ some k
theorem MsgNew.below {B : Nat} {w w' : World} {m : MsgD} {a : MsgA} (h : MsgNew B w m a) (hb : Below w.heap.size w w') : MsgNew B w' m a :=
  ⟨ownS_below h.oL hb, own_below h.ohB hb, own_below h.ohP hb, own_below h.ocB hb, own_below h.ocP hb, own_below h.ocS hb, own_below h.oD hb, h.aL, h.ahB, h.ahP, h.acB, h.acP, h.acS⟩
theorem MsgNew.more {B B' : Nat} {w : World} {m : MsgD} {a : MsgA} (h : MsgNew B w m a) (hB : B' ≤ B) : MsgNew B' w m a :=
  ⟨ownS_more h.oL hB, ownS_more h.ohB hB, ownS_more h.ohP hB, ownS_more h.ocB hB, ownS_more h.ocP hB, ownS_more h.ocS hB, ownS_more h.oD hB, h.aL, h.ahB, h.ahP, h.acB, h.acP, h.acS⟩
/-- is a block one of those that its lists lie in? -/
def MsgA.has (a : MsgA) (k : Nat) : Prop := (Value.slice a.AL a.nL a.cL).ownBlock = some k ∨ (Value.slice a.AhB a.nhB a.chB).ownBlock = some k ∨ (Value.slice a.AhP a.nhP a.chP).ownBlock = some k ∨ (Value.slice a.AcB a.ncB a.ccB).ownBlock = some k ∨ (Value.slice a.AcP a.ncP a.ccP).ownBlock = some k ∨ (Value.slice a.AcS a.ncS a.ccS).ownBlock = some k ∨ (Value.slice a.AD a.nD a.cD).ownBlock = some k
theorem MsgNew.lt {B : Nat} {w : World} {m : MsgD} {a : MsgA} (h : MsgNew B w m a) {k : Nat} (hk : a.has k) : k < w.heap.size ∧ B ≤ k := by
  rcases hk with hk | hk | hk | hk | hk | hk | hk
  · exact own_lt h.oL hk
  · exact own_lt h.ohB hk
  · exact own_lt h.ohP hk
  · exact own_lt h.ocB hk
  · exact own_lt h.ocP hk
  · exact own_lt h.ocS hk
  · exact own_lt h.oD hk
/-- it stands when blocks turn that its lists don't lie in -/
theorem MsgNew.kept {B : Nat} {w w' : World} {m : MsgD} {a : MsgA} (h : MsgNew B w m a) (hk : ∀ g, a.has g → g < w.heap.size → w'.heap[g]? = w.heap[g]?) : MsgNew B w' m a :=
  ⟨own_kept h.oL fun g hg => hk g (.inl hg), own_kept h.ohB fun g hg => hk g (.inr (.inl hg)), own_kept h.ohP fun g hg => hk g (.inr (.inr (.inl hg))), own_kept h.ocB fun g hg => hk g (.inr (.inr (.inr (.inl hg)))), own_kept h.ocP fun g hg => hk g (.inr (.inr (.inr (.inr (.inl hg))))),
    own_kept h.ocS fun g hg => hk g (.inr (.inr (.inr (.inr (.inr (.inl hg)))))), own_kept h.oD fun g hg => hk g (.inr (.inr (.inr (.inr (.inr (.inr hg)))))), h.aL, h.ahB, h.ahP, h.acB, h.acP, h.acS⟩
theorem own_is {w : World} {B n c : Nat} {A : Option Addr} {l : List Int} (h : w.ownsRow B 3 1 (.slice A n c) n (i64s l)) : l.length = n ∧ Rd w A (i64s l) ∧ n ≤ c ∧ c ≤ maxLen := by
  obtain ⟨_, _, e, h1, h2, h3, _, h5⟩ := own_val h
  cases e
  exact ⟨by rw [← h5, i64s_length], h3, h1, h2⟩
theorem own_isT {w : World} {B n c : Nat} {A : Option Addr} {l : List TxD} (h : w.ownsRow B 99 4 (.slice A n c) n (txs l)) : l.length = n ∧ Rd w A (txs l) ∧ n ≤ c ∧ c ≤ maxLen := by
  obtain ⟨_, _, e, h1, h2, h3, _, h5⟩ := ownS_slice h
  cases e
  exact ⟨by rw [txs_length] at h5; omega, h3, h1, h2⟩
theorem MsgNew.in_ {B : Nat} {w : World} {m : MsgD} {a : MsgA} (h : MsgNew B w m a) : MsgIn w m a := by
  obtain ⟨a1, a2, a3, a4⟩ := own_isT h.oL
  obtain ⟨b1, b2, b3, b4⟩ := own_is h.ohB
  obtain ⟨c1, c2, c3, c4⟩ := own_is h.ohP
  obtain ⟨d1, d2, d3, d4⟩ := own_is h.ocB
  obtain ⟨e1, e2, e3, e4⟩ := own_is h.ocP
  obtain ⟨f1, f2, f3, f4⟩ := own_is h.ocS
  obtain ⟨g1, g2, g3, g4⟩ := own_is h.oD
  exact ⟨a1, a2, a3, a4, b1, b2, b3, b4, c1, c2, c3, c4, d1, d2, d3, d4, e1, e2, e3, e4, f1, f2, f3, f4, g1, g2, g3, g4⟩

set_option maxRecDepth 100000 in
set_option maxHeartbeats 8000000 in
theorem rcopyMsg_any (m : MsgD) (a : MsgA) (w : World) (hi : MsgIn w m a) (hf : MsgFew 1000000 a) :
    Calls Try.prog 17 #[msgV m a] w fun e w' => ∃ a', e = .returned (msgV m a') ∧ MsgNew w.heap.size w' m a' ∧ MsgFew 1000000 a' ∧ Below w.heap.size w w' := by
  obtain ⟨w2, hw2⟩ : ∃ w2, w2 = (w.alloc (.cells #[.int .i64 m.k, .int .i64 m.f, .int .i64 m.t, .int .i64 m.d, .int .i64 m.ba, .int .i64 m.bn, .slice a.AL a.nL a.cL, .int .i64 m.ha, .int .i64 m.hr, .slice a.AhB a.nhB a.chB, .slice a.AhP a.nhP a.chP, .int .i64 m.ca, .int .i64 m.cr, .slice a.AcB a.ncB a.ccB, .slice a.AcP a.ncP a.ccP, .int .i64 m.cd, .slice a.AcS a.ncS a.ccS, .slice a.AD a.nD a.cD] 42)).alloc (.cells #[.int .i64 0, .int .i64 0, .int .i64 0, .int .i64 0, .int .i64 0, .int .i64 0, .slice none 0 0, .int .i64 0, .int .i64 0, .slice none 0 0, .slice none 0 0, .int .i64 0, .int .i64 0, .slice none 0 0, .slice none 0 0, .int .i64 0, .slice none 0 0, .slice none 0 0] 42) := ⟨_, rfl⟩
  have hb2 : Below w.heap.size w w2 := by rw [hw2]; exact ((Below.refl _ _).alloc (Nat.le_refl _) _).alloc (by simp) _
  have hs2 : w2.heap.size = w.heap.size + 2 := by rw [hw2]; simp
  have bx2 : Box w2 w.heap.size [.int .i64 m.k, .int .i64 m.f, .int .i64 m.t, .int .i64 m.d, .int .i64 m.ba, .int .i64 m.bn, .slice a.AL a.nL a.cL, .int .i64 m.ha, .int .i64 m.hr, .slice a.AhB a.nhB a.chB, .slice a.AhP a.nhP a.chP, .int .i64 m.ca, .int .i64 m.cr, .slice a.AcB a.ncB a.ccB, .slice a.AcP a.ncP a.ccP, .int .i64 m.cd, .slice a.AcS a.ncS a.ccS, .slice a.AD a.nD a.cD] := by
    rw [hw2]
    exact (box_new w (msgC m a) 42).below ((Below.refl _ _).alloc (Nat.le_refl _) _) (by simp)
  have by2 : Box w2 (w.heap.size + 1) [.int .i64 0, .int .i64 0, .int .i64 0, .int .i64 0, .int .i64 0, .int .i64 0, .slice none 0 0, .int .i64 0, .int .i64 0, .slice none 0 0, .slice none 0 0, .int .i64 0, .int .i64 0, .slice none 0 0, .slice none 0 0, .int .i64 0, .slice none 0 0, .slice none 0 0] := by
    rw [hw2]
    have h := box_new (w.alloc (.cells #[.int .i64 m.k, .int .i64 m.f, .int .i64 m.t, .int .i64 m.d, .int .i64 m.ba, .int .i64 m.bn, .slice a.AL a.nL a.cL, .int .i64 m.ha, .int .i64 m.hr, .slice a.AhB a.nhB a.chB, .slice a.AhP a.nhP a.chP, .int .i64 m.ca, .int .i64 m.cr, .slice a.AcB a.ncB a.ccB, .slice a.AcP a.ncP a.ccP, .int .i64 m.cd, .slice a.AcS a.ncS a.ccS, .slice a.AD a.nD a.cD] 42)) [.int .i64 0, .int .i64 0, .int .i64 0, .int .i64 0, .int .i64 0, .int .i64 0, .slice none 0 0, .int .i64 0, .int .i64 0, .slice none 0 0, .slice none 0 0, .int .i64 0, .int .i64 0, .slice none 0 0, .slice none 0 0, .int .i64 0, .slice none 0 0, .slice none 0 0] 42
    have e : (w.alloc (.cells #[.int .i64 m.k, .int .i64 m.f, .int .i64 m.t, .int .i64 m.d, .int .i64 m.ba, .int .i64 m.bn, .slice a.AL a.nL a.cL, .int .i64 m.ha, .int .i64 m.hr, .slice a.AhB a.nhB a.chB, .slice a.AhP a.nhP a.chP, .int .i64 m.ca, .int .i64 m.cr, .slice a.AcB a.ncB a.ccB, .slice a.AcP a.ncP a.ccP, .int .i64 m.cd, .slice a.AcS a.ncS a.ccS, .slice a.AD a.nD a.cD] 42)).heap.size = w.heap.size + 1 := by simp
    rw [e] at h
    exact h
  have bz2 := box_new w2 [.int .i64 0, .int .i64 0, .int .i64 0, .int .i64 0, .int .i64 0, .int .i64 0, .slice none 0 0, .int .i64 0, .int .i64 0, .slice none 0 0, .slice none 0 0, .int .i64 0, .int .i64 0, .slice none 0 0, .slice none 0 0, .int .i64 0, .slice none 0 0, .slice none 0 0] 42
  have HW2 := Lib.hid hw2
  have HS2 := Lib.hid hs2
  have HIN := Lib.hid hi.all
  have BX2 := Lib.hid bx2
  have BY2 := Lib.hid by2
  have BZ2 := Lib.hid bz2
  have HB2W := Lib.hid hb2
  have HF := Lib.hid hf
  have HI := Lib.hid hi
  obtain ⟨F, hF⟩ : ∃ F : Nat → Prop, F = fun k => k = w2.heap.size := ⟨_, rfl⟩
  have HFG : Hid (F w2.heap.size) := by show F _; rw [hF]
  have HFX : Hid (¬ F w.heap.size) := by show ¬ F _; rw [hF]; intro h; omega
  have HFR : Hid (¬ F (w.heap.size + 1)) := by show ¬ F _; rw [hF]; intro h; omega
  have HFB : Hid (∀ k, F k → k = w2.heap.size) := by show ∀ k, F k → _; rw [hF]; exact fun k h => h
  clear hw2 bx2 by2 bz2 hf hi hF hb2 hs2
  unfold msgV
  go_enter Try.func17, Try.ntmps17
  go_upto_region 1 with fail
  rw [← HW2.out]
  go_wp2_with (first
    | (refine wpList_load_box rfl 42 _ rfl w.heap.size rfl [.int .i64 m.k, .int .i64 m.f, .int .i64 m.t, .int .i64 m.d, .int .i64 m.ba, .int .i64 m.bn, .slice a.AL a.nL a.cL, .int .i64 m.ha, .int .i64 m.hr, .slice a.AhB a.nhB a.chB, .slice a.AhP a.nhP a.chP, .int .i64 m.ca, .int .i64 m.cr, .slice a.AcB a.ncB a.ccB, .slice a.AcP a.ncP a.ccP, .int .i64 m.cd, .slice a.AcS a.ncS a.ccS, .slice a.AD a.nD a.cD] BX2.out _ Try.underlying42 rfl (by kernel_rfl) ?_)
    | (refine wpList_store_box rfl 42 _ _ rfl w2.heap.size 0 [.int .i64 m.k, .int .i64 m.f, .int .i64 m.t, .int .i64 m.d, .int .i64 m.ba, .int .i64 m.bn, .slice a.AL a.nL a.cL, .int .i64 m.ha, .int .i64 m.hr, .slice a.AhB a.nhB a.chB, .slice a.AhP a.nhP a.chP, .int .i64 m.ca, .int .i64 m.cr, .slice a.AcB a.ncB a.ccB, .slice a.AcP a.ncP a.ccP, .int .i64 m.cd, .slice a.AcS a.ncS a.ccS, .slice a.AD a.nD a.cD] [.int .i64 0, .int .i64 0, .int .i64 0, .int .i64 0, .int .i64 0, .int .i64 0, .slice none 0 0, .int .i64 0, .int .i64 0, .slice none 0 0, .slice none 0 0, .int .i64 0, .int .i64 0, .slice none 0 0, .slice none 0 0, .int .i64 0, .slice none 0 0, .slice none 0 0] [.int .i64 m.k, .int .i64 m.f, .int .i64 m.t, .int .i64 m.d, .int .i64 m.ba, .int .i64 m.bn, .slice a.AL a.nL a.cL, .int .i64 m.ha, .int .i64 m.hr, .slice a.AhB a.nhB a.chB, .slice a.AhP a.nhP a.chP, .int .i64 m.ca, .int .i64 m.cr, .slice a.AcB a.ncB a.ccB, .slice a.AcP a.ncP a.ccP, .int .i64 m.cd, .slice a.AcS a.ncS a.ccS, .slice a.AD a.nD a.cD] rfl rfl BZ2.out (by simp) rfl (by kernel_rfl) rfl ?_)
    | (refine wpList_run_to rfl 42 rfl (.pointer (some ⟨w2.heap.size, 0, none⟩)) (w2.alloc (.cells #[.int .i64 0, .int .i64 0, .int .i64 0, .int .i64 0, .int .i64 0, .int .i64 0, .slice none 0 0, .int .i64 0, .int .i64 0, .slice none 0 0, .slice none 0 0, .int .i64 0, .int .i64 0, .slice none 0 0, .slice none 0 0, .int .i64 0, .slice none 0 0, .slice none 0 0] 42)) (by unfold execOp; go_simp; done) ?_))
  intro w3 bz3 T3
  have t23 : Touch F w2 w3 := ((Touch.refl F w2).alloc _).on (T3 F HFG.out)
  have hb3 : Below w.heap.size w w3 := HB2W.out.trans (t23.below (fun k hk => by rw [HFB.out k hk]; have := HS2.out; omega) HB2W.out.size)
  have bx3 := BX2.out.touch t23 HFX.out
  have by3 := BY2.out.touch t23 HFR.out
  have BX3 := Lib.hid bx3
  have BY3 := Lib.hid by3
  have BZ3 := Lib.hid bz3
  have HS3 : Hid (w2.heap.size < w3.heap.size) := bz3.1
  have HT : Hid (∀ wX, Touch F w3 wX → Below w.heap.size w wX) := fun wX h => hb3.trans (h.below (fun k hk => by rw [HFB.out k hk]; have := HS2.out; omega) hb3.size)
  have t3 : Touch F w3 w3 := Touch.refl _ _
  clear T3 bx3 by3 t23
  have xc4 := (BX3.out.2 4 _ rfl).1
  have xc5 := (BX3.out.2 5 _ rfl).1
  have xc6 := (BX3.out.2 6 _ rfl).1
  go_wp2_with fail
  clear xc4 xc5 xc6
  have riw5 := HIN.out _ (HT.out _ t3)
  refine (rcopyBat_any m.ba m.bn a.AL a.cL a.nL m.L _ HI.out.zL riw5.rL HI.out.kL (by have := HF.out.sL; omega)).mono ?_
  rintro e w5 ⟨AL, cL, rfl, hoL, -, -, -, hbw5⟩
  have tw5 := t3.then hbw5
  have bzw5 := Box.below BZ3.out hbw5 (Box.lt BZ3.out)
  go_wp2_with (refine wpList_store_box rfl 36 _ _ rfl (w2.heap.size) 4 [.int .i64 m.ba, .int .i64 m.bn, .slice AL a.nL cL] _ [.int .i64 m.k, .int .i64 m.f, .int .i64 m.t, .int .i64 m.d, .int .i64 m.ba, .int .i64 m.bn, .slice AL a.nL cL, .int .i64 m.ha, .int .i64 m.hr, .slice a.AhB a.nhB a.chB, .slice a.AhP a.nhP a.chP, .int .i64 m.ca, .int .i64 m.cr, .slice a.AcB a.ncB a.ccB, .slice a.AcP a.ncP a.ccP, .int .i64 m.cd, .slice a.AcS a.ncS a.ccS, .slice a.AD a.nD a.cD] rfl rfl bzw5 (by simp) rfl (by kernel_rfl) rfl ?_)
  intro w6 bzw6 Tw6
  have sw6 := Tw6 F HFG.out
  clear Tw6
  have tw6 := tw5.on sw6
  have bxw6 := BX3.out.touch tw6 HFX.out
  have xc7 := (bxw6.2 7 _ rfl).1
  have xc8 := (bxw6.2 8 _ rfl).1
  have xc9 := (bxw6.2 9 _ rfl).1
  have xc10 := (bxw6.2 10 _ rfl).1
  go_wp2_with fail
  clear xc7 xc8 xc9 xc10
  have riw7 := HIN.out _ (HT.out _ tw6)
  refine (rcopyHdr_any m.ha m.hr a.AhB a.chB a.nhB m.hB a.AhP a.chP a.nhP m.hP _ HI.out.zhB riw7.rhB (by have := HF.out.shB; omega) HI.out.zhP riw7.rhP (by have := HF.out.shP; omega) HI.out.khB HI.out.khP).mono ?_
  rintro e w7 ⟨AhB, chB, AhP, chP, rfl, hohB, hohP, hbw7⟩
  have tw7 := tw6.then hbw7
  have bzw7 := Box.below bzw6 hbw7 (Box.lt bzw6)
  go_wp2_with (refine wpList_store_box rfl 38 _ _ rfl (w2.heap.size) 7 [.int .i64 m.ha, .int .i64 m.hr, .slice AhB a.nhB chB, .slice AhP a.nhP chP] _ [.int .i64 m.k, .int .i64 m.f, .int .i64 m.t, .int .i64 m.d, .int .i64 m.ba, .int .i64 m.bn, .slice AL a.nL cL, .int .i64 m.ha, .int .i64 m.hr, .slice AhB a.nhB chB, .slice AhP a.nhP chP, .int .i64 m.ca, .int .i64 m.cr, .slice a.AcB a.ncB a.ccB, .slice a.AcP a.ncP a.ccP, .int .i64 m.cd, .slice a.AcS a.ncS a.ccS, .slice a.AD a.nD a.cD] rfl rfl bzw7 (by simp) rfl (by kernel_rfl) rfl ?_)
  intro w8 bzw8 Tw8
  have sw8 := Tw8 F HFG.out
  clear Tw8
  have tw8 := tw7.on sw8
  have bxw8 := BX3.out.touch tw8 HFX.out
  have xc11 := (bxw8.2 11 _ rfl).1
  have xc12 := (bxw8.2 12 _ rfl).1
  have xc13 := (bxw8.2 13 _ rfl).1
  have xc14 := (bxw8.2 14 _ rfl).1
  have xc15 := (bxw8.2 15 _ rfl).1
  have xc16 := (bxw8.2 16 _ rfl).1
  go_wp2_with fail
  clear xc11 xc12 xc13 xc14 xc15 xc16
  have riw9 := HIN.out _ (HT.out _ tw8)
  refine (rcopyCert_any m.ca m.cr a.AcB a.ccB a.ncB m.cB a.AcP a.ccP a.ncP m.cP m.cd a.AcS a.ccS a.ncS m.cS _ HI.out.zcB riw9.rcB (by have := HF.out.scB; omega) HI.out.zcP riw9.rcP (by have := HF.out.scP; omega) HI.out.zcS riw9.rcS (by have := HF.out.scS; omega) HI.out.kcB HI.out.kcP HI.out.kcS).mono ?_
  rintro e w9 ⟨AcB, ccB, AcP, ccP, AcS, ccS, rfl, hocB, hocP, hocS, hbw9⟩
  have tw9 := tw8.then hbw9
  have bzw9 := Box.below bzw8 hbw9 (Box.lt bzw8)
  go_wp2_with (refine wpList_store_box rfl 40 _ _ rfl (w2.heap.size) 11 [.int .i64 m.ca, .int .i64 m.cr, .slice AcB a.ncB ccB, .slice AcP a.ncP ccP, .int .i64 m.cd, .slice AcS a.ncS ccS] _ [.int .i64 m.k, .int .i64 m.f, .int .i64 m.t, .int .i64 m.d, .int .i64 m.ba, .int .i64 m.bn, .slice AL a.nL cL, .int .i64 m.ha, .int .i64 m.hr, .slice AhB a.nhB chB, .slice AhP a.nhP chP, .int .i64 m.ca, .int .i64 m.cr, .slice AcB a.ncB ccB, .slice AcP a.ncP ccP, .int .i64 m.cd, .slice AcS a.ncS ccS, .slice a.AD a.nD a.cD] rfl rfl bzw9 (by simp) rfl (by kernel_rfl) rfl ?_)
  intro w10 bzw10 Tw10
  have sw10 := Tw10 F HFG.out
  clear Tw10
  have tw10 := tw9.on sw10
  have bxw10 := BX3.out.touch tw10 HFX.out
  have xc17 := (bxw10.2 17 _ rfl).1
  go_wp2_with fail
  clear xc17
  have riw11 := HIN.out _ (HT.out _ tw10)
  refine (copyNumbers_any a.AD a.cD a.nD m.D _ HI.out.zD riw11.rD HI.out.kD (by have := HF.out.sD; omega)).mono ?_
  rintro e w11 ⟨vD, rfl, hoD0, hbw11⟩
  have hoD := own_cast hoD0 ((i64s_length _).trans HI.out.zD)
  obtain ⟨AD, cD, rfl, -, -, -, -, -⟩ := own_val hoD
  clear hoD0
  have tw11 := tw10.then hbw11
  have bzw11 := Box.below bzw10 hbw11 (Box.lt bzw10)
  have zc17 := (bzw11.2 17 _ rfl).1
  have zf17 := (bzw11.2 17 _ rfl).2
  obtain ⟨w12, hw12⟩ : ∃ w12, w12 = w11.setCell ⟨w2.heap.size, 17, none⟩ (.slice AD a.nD cD) := ⟨_, rfl⟩
  have bzw12 : Box w12 (w2.heap.size) [.int .i64 m.k, .int .i64 m.f, .int .i64 m.t, .int .i64 m.d, .int .i64 m.ba, .int .i64 m.bn, .slice AL a.nL cL, .int .i64 m.ha, .int .i64 m.hr, .slice AhB a.nhB chB, .slice AhP a.nhP chP, .int .i64 m.ca, .int .i64 m.cr, .slice AcB a.ncB ccB, .slice AcP a.ncP ccP, .int .i64 m.cd, .slice AcS a.ncS ccS, .slice AD a.nD cD] := by rw [hw12]; exact box_set_one bzw11 (by simp) rfl
  have sw12 : Touch F w11 w12 := by rw [hw12]; exact (Touch.refl F w11).set (.inl HFG.out) _
  have tw12 := tw11.on sw12
  go_upto_region 6 with fail
  rw [← hw12]
  clear zc17 zf17 hw12
  have byl := BY3.out.touch tw12 HFR.out
  obtain ⟨F2, hF2⟩ : ∃ F2 : Nat → Prop, F2 = fun k => k = w.heap.size + 1 := ⟨_, rfl⟩
  have HG2 : Hid (F2 (w.heap.size + 1)) := by show F2 _; rw [hF2]
  have HB2 : Hid (∀ k, F2 k → k = w.heap.size + 1) := by show ∀ k, F2 k → _; rw [hF2]; exact fun k h => h
  clear hF2
  go_wp2_with (first
    | (refine wpList_load_box rfl 42 _ rfl (w2.heap.size) rfl [.int .i64 m.k, .int .i64 m.f, .int .i64 m.t, .int .i64 m.d, .int .i64 m.ba, .int .i64 m.bn, .slice AL a.nL cL, .int .i64 m.ha, .int .i64 m.hr, .slice AhB a.nhB chB, .slice AhP a.nhP chP, .int .i64 m.ca, .int .i64 m.cr, .slice AcB a.ncB ccB, .slice AcP a.ncP ccP, .int .i64 m.cd, .slice AcS a.ncS ccS, .slice AD a.nD cD] bzw12 _ Try.underlying42 rfl (by kernel_rfl) ?_)
    | (refine wpList_store_box rfl 42 _ _ rfl (w.heap.size + 1) 0 [.int .i64 m.k, .int .i64 m.f, .int .i64 m.t, .int .i64 m.d, .int .i64 m.ba, .int .i64 m.bn, .slice AL a.nL cL, .int .i64 m.ha, .int .i64 m.hr, .slice AhB a.nhB chB, .slice AhP a.nhP chP, .int .i64 m.ca, .int .i64 m.cr, .slice AcB a.ncB ccB, .slice AcP a.ncP ccP, .int .i64 m.cd, .slice AcS a.ncS ccS, .slice AD a.nD cD] _ [.int .i64 m.k, .int .i64 m.f, .int .i64 m.t, .int .i64 m.d, .int .i64 m.ba, .int .i64 m.bn, .slice AL a.nL cL, .int .i64 m.ha, .int .i64 m.hr, .slice AhB a.nhB chB, .slice AhP a.nhP chP, .int .i64 m.ca, .int .i64 m.cr, .slice AcB a.ncB ccB, .slice AcP a.ncP ccP, .int .i64 m.cd, .slice AcS a.ncS ccS, .slice AD a.nD cD] rfl rfl byl (by simp) rfl (by kernel_rfl) rfl ?_))
  intro w13 by13 T13
  have s13 := T13 F2 HG2.out
  clear T13
  have rc0 := (by13.2 0 _ rfl).1
  have rc1 := (by13.2 1 _ rfl).1
  have rc2 := (by13.2 2 _ rfl).1
  have rc3 := (by13.2 3 _ rfl).1
  have rc4 := (by13.2 4 _ rfl).1
  have rc5 := (by13.2 5 _ rfl).1
  have rc6 := (by13.2 6 _ rfl).1
  have rc7 := (by13.2 7 _ rfl).1
  have rc8 := (by13.2 8 _ rfl).1
  have rc9 := (by13.2 9 _ rfl).1
  have rc10 := (by13.2 10 _ rfl).1
  have rc11 := (by13.2 11 _ rfl).1
  have rc12 := (by13.2 12 _ rfl).1
  have rc13 := (by13.2 13 _ rfl).1
  have rc14 := (by13.2 14 _ rfl).1
  have rc15 := (by13.2 15 _ rfl).1
  have rc16 := (by13.2 16 _ rfl).1
  have rc17 := (by13.2 17 _ rfl).1
  have zw11 : Touch F w11 w12 := sw12
  have zw9 : Touch F w9 w12 := (sw10.then hbw11).on zw11
  have zw7 : Touch F w7 w12 := (sw8.then hbw9).on zw9
  have zw5 : Touch F w5 w12 := (sw6.then hbw7).on zw7
  have hlt : ∀ k, F k → k < w3.heap.size := fun k hk => by rw [HFB.out k hk]; exact HS3.out
  have hlt2 : ∀ k, F2 k → k < w3.heap.size := fun k hk => by rw [HB2.out k hk]; have := HS3.out; have := HS2.out; omega
  have oL := own_touch (own_touch (ownS_more hoL (t3).size) zw5 hlt) s13 hlt2
  have ohB := own_touch (own_touch (ownS_more hohB (tw6).size) zw7 hlt) s13 hlt2
  have ohP := own_touch (own_touch (ownS_more hohP (tw6).size) zw7 hlt) s13 hlt2
  have ocB := own_touch (own_touch (ownS_more hocB (tw8).size) zw9 hlt) s13 hlt2
  have ocP := own_touch (own_touch (ownS_more hocP (tw8).size) zw9 hlt) s13 hlt2
  have ocS := own_touch (own_touch (ownS_more hocS (tw8).size) zw9 hlt) s13 hlt2
  have oD := own_touch (own_touch (ownS_more hoD (tw10).size) zw11 hlt) s13 hlt2
  have hbl : Below w.heap.size w w13 := (HT.out _ tw12).trans (s13.below (fun k hk => by rw [HB2.out k hk]; omega) (HT.out _ tw12).size)
  have hws : w.heap.size ≤ w3.heap.size := by have := HS3.out; have := HS2.out; omega
  have z6 := sw6.size
  have z7 := hbw7.size
  have z8 := sw8.size
  have z9 := hbw9.size
  have z10 := sw10.size
  go_wp2_with fail
  refine bodyPost_ret (v := .agg #[.int .i64 m.k, .int .i64 m.f, .int .i64 m.t, .int .i64 m.d, .int .i64 m.ba, .int .i64 m.bn, .slice AL a.nL cL, .int .i64 m.ha, .int .i64 m.hr, .slice AhB a.nhB chB, .slice AhP a.nhP chP, .int .i64 m.ca, .int .i64 m.cr, .slice AcB a.ncB ccB, .slice AcP a.ncP ccP, .int .i64 m.cd, .slice AcS a.ncS ccS, .slice AD a.nD cD]) (by simp [results, Try.results17, go_sem, rc0, rc1, rc2, rc3, rc4, rc5, rc6, rc7, rc8, rc9, rc10, rc11, rc12, rc13, rc14, rc15, rc16, rc17]) rfl ⟨⟨AL, a.nL, cL, AhB, a.nhB, chB, AhP, a.nhP, chP, AcB, a.ncB, ccB, AcP, a.ncP, ccP, AcS, a.ncS, ccS, AD, a.nD, cD⟩, rfl, ⟨ownS_more oL hws, ownS_more ohB hws, ownS_more ohP hws, ownS_more ocB hws, ownS_more ocP hws, ownS_more ocS hws, ownS_more oD hws, fun k hD hX => by have h1 := (own_lt hoD hD).2; have h2 := (own_lt hoL hX).1; omega, fun k hD hX => by have h1 := (own_lt hoD hD).2; have h2 := (own_lt hohB hX).1; omega, fun k hD hX => by have h1 := (own_lt hoD hD).2; have h2 := (own_lt hohP hX).1; omega, fun k hD hX => by have h1 := (own_lt hoD hD).2; have h2 := (own_lt hocB hX).1; omega, fun k hD hX => by have h1 := (own_lt hoD hD).2; have h2 := (own_lt hocP hX).1; omega, fun k hD hX => by have h1 := (own_lt hoD hD).2; have h2 := (own_lt hocS hX).1; omega⟩, ⟨HF.out.sL, HF.out.shB, HF.out.shP, HF.out.scB, HF.out.scP, HF.out.scS, HF.out.sD⟩, hbl⟩

end Go.Proofs.Ytcfnomnhameleaa
