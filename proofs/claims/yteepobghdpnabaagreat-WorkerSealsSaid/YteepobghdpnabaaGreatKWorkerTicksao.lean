/-
  The page's step: what is kept by enough.
-/
import Derived.Test.YteepobghdpnabaaGreatKWorkerTicksw
import Derived.Test.YteepobghdpnabaaGreatKWorkerTicksq
import Derived.Test.YteepobghdpnabaaGreatKWorkerTicksad
import Derived.Test.YteepobghdpnabaaGreatKWorkerTicksaj
import Derived.Test.YteepobghdpnabaaGreatKWorkerTicksak
namespace Go.Proofs.YteepobghdpnabaaGreat
open Go.RowKit

section
variable {g B : Nat} {w w2 : World} {P : WkD} {a : WkA} {l : List OtD} {o ho o8 : Ad} {ms : List (OtD × Ad)} {ws : List (WtD × Ad)} {L : List WtD}
/-- another list of what is ready -/
theorem StAt.putR (h : StAt g B w P a l o ms) {R : List Int} (ht : Touch (fun k => a.R.v.ownBlock = some k) w w2) (ho8 : w2.ownsRow B 3 1 o8.v o8.n (i64s R)) (hl : R.length = o8.n) (hb : ∀ k, o8.v.ownBlock = some k → a.R.v.ownBlock = some k ∨ w.heap.size ≤ k) :
    StAt g B (w2.setCell ⟨g, 8, none⟩ o8.v) { P with R := R } { a with R := o8 } l o ms ∧ Touch (fun k => k = g ∨ a.R.v.ownBlock = some k) w (w2.setCell ⟨g, 8, none⟩ o8.v) := by
  have hRg : ∀ k, a.R.v.ownBlock = some k → k ≠ g := fun k hk => h.far0 k (.inl (.inr (.inr (.inl hk))))
  have hgl := h.box.1
  have Tg : Touch (fun k => k = g) w2 (w2.setCell ⟨g, 8, none⟩ o8.v) := (Touch.refl (fun j => j = g) w2).set (.inl rfl) o8.v
  have hbx := (h.box.touch ht fun hf => hRg g hf rfl).set (j := 8) (u := o8.v) (show 8 < 10 by decide)
  have hpg := h.pg.setR ht ho8 hl hb
  have hno : ∀ k, stHas { a with R := o8 } o ms k → k ≠ g := by
    rintro k ((hk | hk | hk | hk | hk) | hk | hk | hk)
    · exact h.far0 k (.inl (.inl hk))
    · exact h.far0 k (.inl (.inr (.inl hk)))
    · rcases hb k hk with e | e
      · exact hRg k e
      · omega
    · exact h.far0 k (.inl (.inr (.inr (.inr (.inl hk)))))
    · exact h.far0 k (.inl (.inr (.inr (.inr (.inr hk)))))
    · exact h.far0 k (.inr (.inl hk))
    · exact h.far0 k (.inr (.inr (.inl hk)))
    · exact h.far0 k (.inr (.inr (.inr hk)))
  have hout := h.out.touch ht (fun k hk hf => own_unlike h.pg.core.ready h.out.row (show 3 ≠ KM.e by decide) hf hk) (fun y hy k hk hf => own_unlike h.pg.core.ready (h.out.sub y hy).1 (show 3 ≠ KM.e2 by decide) hf hk)
  exact ⟨⟨by simpa [wkC] using hbx, hpg.touch Tg (fun k hk ho => hno k (.inl ho) hk) (fun k hk ho => hno k (.inr (.inl ho)) hk), hout.touch Tg (fun k hk hf => hno k (.inr (.inr (.inl hk))) hf) (fun y hy k hk hf => hno k (.inr (.inr (.inr ⟨y, hy, hk⟩))) hf), h.eO, hno,
    h.ap, h.gB, by have := h.le; have := ht.size; have := Tg.size; omega⟩, (ht.mono fun k hk => .inr hk).on (Tg.mono fun k hk => .inl hk)⟩
/-- another row of waits -/
theorem StAt.putW (h : StAt g B w P a l o ms) (hb : Below w.heap.size w w2) (hr : RowOwn KW B w2 ho ws) (he : ws.map Prod.fst = L) (h0 : ∀ k, ho.v.ownBlock = some k → k ≠ g) (h1 : ∀ y ∈ ws, ∀ k, y.2.v.ownBlock = some k → k ≠ g) (h2 : ∀ x ∈ ws, ∀ k, a.R.v.ownBlock = some k → x.2.v.ownBlock ≠ some k) :
    StAt g B (w2.setCell ⟨g, 6, none⟩ ho.v) { P with W := L } { a with W := ho, ms := ws } l o ms ∧ Touch (fun k => k = g) w (w2.setCell ⟨g, 6, none⟩ ho.v) := by
  have h' := h.below hb
  have Tg : Touch (fun k => k = g) w2 (w2.setCell ⟨g, 6, none⟩ ho.v) := (Touch.refl (fun j => j = g) w2).set (.inl rfl) ho.v
  have hbx := h'.box.set (j := 6) (u := ho.v) (show 6 < 10 by decide)
  have hpg := h'.pg.setW (Touch.refl _ w2) hr he h2
  have hno : ∀ k, stHas { a with W := ho, ms := ws } o ms k → k ≠ g := by
    rintro k ((hk | hk | hk | ⟨y, hy, hk⟩ | hk) | hk | hk | hk)
    · exact h0 k hk
    · exact h.far0 k (.inl (.inr (.inl hk)))
    · exact h.far0 k (.inl (.inr (.inr (.inl hk))))
    · exact h1 y hy k hk
    · exact h.far0 k (.inl (.inr (.inr (.inr (.inr hk)))))
    · exact h.far0 k (.inr (.inl hk))
    · exact h.far0 k (.inr (.inr (.inl hk)))
    · exact h.far0 k (.inr (.inr (.inr hk)))
  exact ⟨⟨by simpa [wkC] using hbx, hpg.touch Tg (fun k hk ho => hno k (.inl ho) hk) (fun k hk ho => hno k (.inr (.inl ho)) hk), h'.out.touch Tg (fun k hk hf => hno k (.inr (.inr (.inl hk))) hf) (fun y hy k hk hf => hno k (.inr (.inr (.inr ⟨y, hy, hk⟩))) hf), h'.eO, hno,
    h.ap, h.gB, by have := h'.le; have := Tg.size; omega⟩, (Touch.of hb).on Tg⟩
end

/-- while what is kept by enough goes -/
structure KL (g B C : Nat) (P : WkD) (a : WkA) (l : List OtD) (o : Ad) (ms : List (OtD × Ad)) (w : World) (oL o8 : Ad) (k : Nat) (wr : World) : Prop where
  at_ : StAt g B wr { P with R := P.R ++ goneI P.N (a.ms.take k) P.R } { a with R := o8 } l o ms
  left : wr.ownsRow C 56 2 oL.v oL.n (cellsK KW (leftK P.N (a.ms.take k)))
  lenL : (leftK P.N (a.ms.take k)).length = oL.n
  c : C ≤ wr.heap.size
  cB : B ≤ C
  gC : g < C
  wC : ∀ j, a.W.v.ownBlock = some j → j < C
  touch : Touch (fun j => j = g ∨ a.R.v.ownBlock = some j) w wr
  own8 : ∀ j, o8.v.ownBlock = some j → a.R.v.ownBlock = some j ∨ w.heap.size ≤ j
  wsz : w.heap.size ≤ C
section
variable {g B C k : Nat} {P : WkD} {a : WkA} {l : List OtD} {o : Ad} {ms : List (OtD × Ad)} {w wr w1 w2 : World} {oL oL' o8 o8' : Ad} {x : WtD × Ad}
theorem KL.skip (h : KL g B C P a l o ms w oL o8 k wr) (hb : Below wr.heap.size wr w1) : KL g B C P a l o ms w oL o8 k w1 :=
  ⟨h.at_.below hb, ownS_below h.left hb, h.lenL, by have := h.c; have := hb.size; omega, h.cB, h.gC, h.wC, h.touch.on (Touch.of hb), h.own8, h.wsz⟩
theorem KL.keep (h : KL g B C P a l o ms w oL o8 k wr) (hx : a.ms[k]? = some x) (he : enough P.N x.1.S = false) (hg : wr.grownBy w2 oL.v.ownBlock) (ho : w2.ownsRow C 56 2 oL'.v oL'.n (cellsK KW (leftK P.N (a.ms.take k)) ++ KW.cells x.1 x.2.v)) (hn : oL'.n = oL.n + 1) :
    KL g B C P a l o ms w oL' o8 (k + 1) w2 := by
  have hT : Touch (fun j => oL.v.ownBlock = some j) wr w2 := Touch.grown hg fun j hj => hj
  have hC : ∀ j, oL.v.ownBlock = some j → C ≤ j := fun j hj => (own_lt h.left hj).2
  have hgC := h.gC
  have hcB := h.cB
  have hn' := h.at_.pg.core
  have hno : ∀ j, oL.v.ownBlock = some j → j ≠ g ∧ ¬ stHas { a with R := o8 } o ms j := fun j hf => ⟨by have := hC j hf; omega, by
    rintro ((ho | ho | ho | ⟨y, hy, ho⟩ | ⟨y, hy, ho⟩) | ho | ho | ⟨y, hy, ho⟩)
    · have := h.wC j ho; have := hC j hf; omega
    · exact own_unlike h.left hn'.held.row (show KW.e ≠ KH.e by decide) hf ho
    · exact own_unlike h.left hn'.ready (show KW.e ≠ 3 by decide) hf ho
    · exact own_unlike h.left (hn'.waits.sub y hy).1 (show KW.e ≠ KW.e2 by decide) hf ho
    · exact own_unlike h.left (hn'.held.sub y hy).1 (show KW.e ≠ KH.e2 by decide) hf ho
    · exact h.at_.pg.open_far (ownS_more h.left h.cB) (show KW.e ≠ 40 by decide) hf ho
    · exact own_unlike h.left h.at_.out.row (show KW.e ≠ KM.e by decide) hf ho
    · exact own_unlike h.left (h.at_.out.sub y hy).1 (show KW.e ≠ KM.e2 by decide) hf ho⟩
  have el : leftK P.N (a.ms.take (k + 1)) = leftK P.N (a.ms.take k) ++ [x] := by rw [leftK_next hx, if_neg (by rw [he]; decide)]
  have eg : goneI P.N (a.ms.take (k + 1)) P.R = goneI P.N (a.ms.take k) P.R := by rw [goneI_next hx, if_neg (by rw [he]; simp), List.append_nil]
  exact ⟨by rw [eg]; exact h.at_.far hT hno, by rw [el, cellsK_append, cellsK_one]; exact ho, by rw [el, List.length_append, h.lenL, hn]; rfl, by have := h.c; have := hT.size; omega, h.cB, h.gC, h.wC, h.touch.trans hT (fun j hj => .inr (by have := hC j hj; have := h.wsz; omega)), h.own8, h.wsz⟩
theorem KL.gone (h : KL g B C P a l o ms w oL o8 k wr) (hx : a.ms[k]? = some x) (he : enough P.N x.1.S = true) (hd : x.1.d ∈ P.R) : KL g B C P a l o ms w oL o8 (k + 1) wr := by
  have el : leftK P.N (a.ms.take (k + 1)) = leftK P.N (a.ms.take k) := by rw [leftK_next hx, if_pos he, List.append_nil]
  have eg : goneI P.N (a.ms.take (k + 1)) P.R = goneI P.N (a.ms.take k) P.R := by rw [goneI_next hx, if_neg (fun h => h.2 hd), List.append_nil]
  exact ⟨by rw [eg]; exact h.at_, by rw [el]; exact h.left, by rw [el]; exact h.lenL, h.c, h.cB, h.gC, h.wC, h.touch, h.own8, h.wsz⟩
theorem KL.more (h : KL g B C P a l o ms w oL o8 k wr) (hx : a.ms[k]? = some x) (he : enough P.N x.1.S = true) (hd : x.1.d ∉ P.R) (hg : wr.grownBy w2 o8.v.ownBlock) (ho : w2.ownsRow B 3 1 o8'.v o8'.n (i64s (P.R ++ goneI P.N (a.ms.take k) P.R) ++ [.int .i64 x.1.d])) (hn : o8'.n = o8.n + 1)
    (hat : o8.v.ownBlock = o8'.v.ownBlock ∨ o8'.v.ownBlock = some wr.heap.size) : KL g B C P a l o ms w oL o8' (k + 1) (w2.setCell ⟨g, 8, none⟩ o8'.v) := by
  have hT : Touch (fun j => o8.v.ownBlock = some j) wr w2 := Touch.grown hg fun j hj => hj
  have el : leftK P.N (a.ms.take (k + 1)) = leftK P.N (a.ms.take k) := by rw [leftK_next hx, if_pos he, List.append_nil]
  have eg : P.R ++ goneI P.N (a.ms.take (k + 1)) P.R = P.R ++ goneI P.N (a.ms.take k) P.R ++ [x.1.d] := by rw [goneI_next hx, if_pos ⟨he, hd⟩, List.append_assoc]
  have hblk : ∀ j, o8'.v.ownBlock = some j → o8.v.ownBlock = some j ∨ wr.heap.size ≤ j := fun j hj => by
    rcases hat with e | e
    · exact .inl (e.trans hj)
    · rw [e] at hj; cases hj; exact .inr (Nat.le_refl _)
  have hput := h.at_.putR (R := P.R ++ goneI P.N (a.ms.take k) P.R ++ [x.1.d]) (o8 := o8') hT (by rw [i64s_append]; exact ho) (by rw [List.length_append, hn, ← h.at_.pg.core.rL]; rfl) hblk
  have hcs := h.c
  have hgC := h.gC
  have hsz := hT.size
  have hs2 := hput.2.size
  refine ⟨by rw [eg]; exact hput.1, by rw [el]; exact own_kept h.left fun j hj hl => hput.2.block j hl (by
    rintro (hf | hf)
    · have := (own_lt h.left hj).2; omega
    · exact own_unlike h.at_.pg.core.ready h.left (show 3 ≠ KW.e by decide) hf hj), by rw [el]; exact h.lenL, by omega, h.cB, h.gC, h.wC, h.touch.trans hput.2 (fun j hj => by
    rcases hj with e | e
    · exact .inl (.inl e)
    · exact (h.own8 j e).imp .inr id), fun j hj => ?_, h.wsz⟩
  rcases hblk j hj with e | e
  · exact h.own8 j e
  · have := h.touch.size
    exact .inr (by omega)
theorem KL.end_ (h : KL g B C P a l o ms w oL o8 k wr) (hk : a.ms.length ≤ k) (he : a.ms.map Prod.fst = P.W) : StAt g B (wr.setCell ⟨g, 6, none⟩ oL.v) (settleW P) { a with R := o8, W := oL, ms := leftK P.N a.ms } l o ms ∧ Touch (fun j => j = g ∨ a.R.v.ownBlock = some j) w (wr.setCell ⟨g, 6, none⟩ oL.v) := by
  have ht : a.ms.take k = a.ms := List.take_of_length_le hk
  have h1 := h.at_
  have h2 := h.left
  have h3 := h.lenL
  rw [ht] at h1 h2 h3
  have hgC := h.gC
  have hmem : ∀ y ∈ leftK P.N a.ms, y ∈ a.ms := fun y hy => (List.mem_filter.1 hy).1
  have hrow : RowOwn KW B wr oL (leftK P.N a.ms) := ⟨ownS_more h2 h.cB, h3, fun y hy => h1.pg.core.waits.sub y (hmem y hy), h1.pg.core.waits.nod.filter _⟩
  have hput := h1.putW (L := (leftK P.N a.ms).map Prod.fst) (Below.refl _ _) hrow rfl (fun j hj => by have := (own_lt h2 hj).2; omega) (fun y hy j hj => h1.far0 j (.inl (.inr (.inr (.inr (.inl ⟨y, hmem y hy, hj⟩)))))) (fun y hy => h1.pg.core.apR y (hmem y hy))
  rw [settle_is he]
  exact ⟨hput.1, h.touch.on (hput.2.mono fun j hj => .inl hj)⟩
end

end Go.Proofs.YteepobghdpnabaaGreat
namespace Go.Proofs.YteepobghdpnabaaGreat
open Go.RowKit

theorem st_new {B : Nat} {w : World} {P : WkD} {a : WkA} (h : WNew B w P a) (hB : B ≤ w.heap.size) : StAt w.heap.size B (w.alloc (.cells (wkC P a ++ [noAd.v]).toArray 75)) P a [] noAd [] := by
  have hb : Below w.heap.size w (w.alloc (.cells (wkC P a ++ [noAd.v]).toArray 75)) := (Below.refl _ _).alloc (Nat.le_refl _) _
  refine ⟨box_new w (wkC P a ++ [noAd.v]) 75, h.pg.below hb, rowOwn_none _ _, rfl, ?_, fun y hy => by simp at hy, hB, by have := hb.size; omega⟩
  rintro k (hk | ⟨x, hx, hk⟩ | hk | ⟨y, hy, hk⟩)
  · have := (h.core.lt hk).1; omega
  · obtain ⟨cur, hc⟩ := h.pg.typ x hx
    have := lt_of_block hc
    omega
  · simp [noAd, Ad.v, Value.ownBlock] at hk
  · simp at hy
theorem WPg.nums {B : Nat} {w : World} {P : WkD} {a : WkA} (h : WPg B w P a) (x g c : Int) : WPg B w { P with x := x, g := g, c := c } a := ⟨⟨h.core.waits, h.core.eW, h.core.held, h.core.eH, h.core.ready, h.core.rL, h.core.apR⟩, h.open_, h.typ⟩
/-- other numbers -/
theorem StAt.nums {g B : Nat} {w w' : World} {P : WkD} {a : WkA} {l : List OtD} {o : Ad} {ms : List (OtD × Ad)} (h : StAt g B w P a l o ms) {x g1 c : Int} (hb : Box w' g (wkC { P with x := x, g := g1, c := c } a ++ [o.v])) (ht : Touch (fun k => k = g) w w') : StAt g B w' { P with x := x, g := g1, c := c } a l o ms :=
  ⟨hb, (h.pg.touch ht (fun k hk ho => h.far0 k (.inl ho) hk) (fun k hk ho => h.far0 k (.inr (.inl ho)) hk)).nums x g1 c, h.out.touch ht (fun k hk hf => h.far0 k (.inr (.inr (.inl hk))) hf) (fun y hy k hk hf => h.far0 k (.inr (.inr (.inr ⟨y, hy, hk⟩))) hf), h.eO, h.far0, h.ap, h.gB, by have := h.le; have := ht.size; omega⟩
/-- where a digest is held, by the page's search -/
theorem idx_look {P : WkD} {d : Int} (h : 0 ≤ idxI P.hs d) : ∃ (p : Nat) (y : HlD), idxI P.hs d = p ∧ P.H[p]? = some y ∧ lookH P.H d = some y := by
  obtain ⟨p, h1, h2, h3⟩ := idxI_ex (idxI_ge.1 h)
  rw [WkD.hs, List.length_map] at h2
  obtain ⟨y, hy⟩ : ∃ y, P.H[p]? = some y := ⟨P.H[p], by simp [h2]⟩
  refine ⟨p, y, h1, hy, ?_⟩
  rw [lookH_is]
  have e : firstI (P.H.map HlD.d) d = some p := by
    have : idxI P.hs d = (p : Int) := h1
    unfold idxI at this
    rw [WkD.hs] at this
    cases hf : firstI (P.H.map HlD.d) d with
    | none => rw [hf] at this; simp only at this; omega
    | some q => rw [hf] at this; simp only at this; congr 1; omega
  rw [e]
  exact hy
theorem idx_none {P : WkD} {d : Int} (h : ¬ 0 ≤ idxI P.hs d) : lookH P.H d = none := lookH_no fun hd => h (idxI_ge.2 hd)
theorem askTo_len (P : WkD) (d a n : Int) (L : List TxD) (S : List Int) (k : Nat) : (askTo P d a n L S k).length ≤ k := by
  unfold askTo
  rw [List.length_map]
  refine Nat.le_trans (List.length_filter_le _ _) ?_
  rw [List.length_map, List.length_range]
  exact Nat.le_refl _
theorem StAt.lenO {g B : Nat} {w : World} {P : WkD} {a : WkA} {l : List OtD} {o : Ad} {ms : List (OtD × Ad)} (h : StAt g B w P a l o ms) : ms.length = l.length := by rw [← h.eO, List.length_map]

end Go.Proofs.YteepobghdpnabaaGreat
namespace Go.Proofs.YteepobghdpnabaaGreat
open Go.RowKit

/-- a step is handed back -/
def StTo (Q : WkD) (l : List OtD) (w : World) (e : Ending) (w' : World) : Prop := ∃ (s B : Nat) (a : WkA) (o : Ad) (ms : List (OtD × Ad)), e = .returned (.pointer (some ⟨s, 0, none⟩)) ∧ w.heap.size ≤ B ∧ StAt s B w' Q a l o ms ∧ Below w.heap.size w w'
/-- what is read of a step and a wait when a message is told -/
structure SQ (w : World) (s xb : Nat) (AH : Option Addr) (nH cH : Nat) (x : WtD × Ad) (gh p : Nat) (y : HlD × Ad) : Prop where
  x0 : w.cell? ⟨xb, 0, none⟩ = some (.int .i64 x.1.d)
  s7 : w.cell? ⟨s, 7, none⟩ = some (.slice AH nH cH)
  y1 : w.cell? ⟨gh, p * 4 + 1, none⟩ = some (.int .i64 y.1.a)
  y2 : w.cell? ⟨gh, p * 4 + 2, none⟩ = some (.int .i64 y.1.n)
  y3 : w.cell? ⟨gh, p * 4 + 3, none⟩ = some (.slice y.2.A y.2.n y.2.c)
set_option maxRecDepth 100000 in
set_option maxHeartbeats 16000000 in
theorem rtick_Q (P : WkD) (a : WkA) (w : World) (h : WIn w P a) (hf : WFew P 300000) (hm : mayW P = true) (hr : ¬ (min (P.c + 1) 1099511627776 % 3 = 0)) : Calls Tryz.prog 59 #[wkV P a] w (StTo (tickW P) (tickO P) w) := by
  obtain ⟨g, hg⟩ : ∃ g, g = w.heap.size := ⟨_, rfl⟩
  obtain ⟨wa0, hwa0⟩ : ∃ wa0, wa0 = w.alloc (.cells #[.int .i64 P.i, .int .i64 P.N, .int .i64 P.x, .slice a.O.A a.O.n a.O.c, .int .i64 P.g, .int .i64 P.c, .slice a.W.A a.W.n a.W.c, .slice a.H.A a.H.n a.H.c, .slice a.R.A a.R.n a.R.c] 27) := ⟨_, rfl⟩
  have hs0 : wa0.heap.size = g + 1 := by rw [hwa0]; simp; omega
  have bn0 : Box wa0 (g) (wkC P a) := by rw [hwa0, hg]; exact box_new w (wkC P a) 27
  have hb0 : Below g w wa0 := by rw [hwa0]; exact (Below.refl _ _).alloc (by omega) _
  have HX0 : Hid (Box wa0 (g) (wkC P a)) := bn0
  obtain ⟨w0, hw0⟩ : ∃ w0, w0 = wa0 := ⟨_, rfl⟩
  rw [← hw0] at HX0
  have hsz0 : w0.heap.size = g + 1 := by rw [hw0]; exact hs0
  have hb0w : Below g w w0 := by rw [hw0]; exact hb0
  have HW0 : Hid (w.alloc (.cells #[.int .i64 P.i, .int .i64 P.N, .int .i64 P.x, .slice a.O.A a.O.n a.O.c, .int .i64 P.g, .int .i64 P.c, .slice a.W.A a.W.n a.W.c, .slice a.H.A a.H.n a.H.c, .slice a.R.A a.R.n a.R.c] 27) = w0) := by show w.alloc (.cells #[.int .i64 P.i, .int .i64 P.N, .int .i64 P.x, .slice a.O.A a.O.n a.O.c, .int .i64 P.g, .int .i64 P.c, .slice a.W.A a.W.n a.W.c, .slice a.H.A a.H.n a.H.c, .slice a.R.A a.R.n a.R.c] 27) = w0; rw [hw0, hwa0]
  have HG : Hid (w.heap.size = g) := hg.symm
  have HS0 := Lib.hid hsz0
  have HB0 := Lib.hid hb0w
  have hl0 : g < w0.heap.size := by omega
  have hgw : g ≤ w0.heap.size := by omega
  have hin0 := h.below' HB0.out HG.out
  have HIN : Hid (∀ wX, Below w0.heap.size w0 wX → WIn wX P a) := by show ∀ wX, _; exact fun wX hX => hin0.below hX
  have HF := Lib.hid hf
  have hmw := mayW_iff.1 hm
  obtain ⟨c1, hc1⟩ : ∃ c1, c1 = min (P.c + 1) 1099511627776 := ⟨_, rfl⟩
  obtain ⟨g1, hg1⟩ : ∃ g1, g1 = min (P.g + 1) 1099511627776 := ⟨_, rfl⟩
  have HC1 := Lib.hid hc1
  have HG1 := Lib.hid hg1
  have c0 := hmw.clock
  have g0 := hmw.age
  have c2 : 0 ≤ c1 ∧ c1 ≤ 1099511627776 := by omega
  obtain ⟨P4, hP4⟩ : ∃ P4, P4 = tickW P := ⟨_, rfl⟩
  have e4 : P4.W = P.W ∧ P4.H = P.H ∧ P4.i = P.i ∧ P4.N = P.N ∧ P4.c = c1 := by rw [hP4, hc1]; exact ⟨rfl, rfl, rfl, rfl, rfl⟩
  have HF4 : Hid (WFew P4 300000) := by show WFew P4 300000; rw [hP4]; exact ⟨hf.o, hf.w, hf.h, hf.r, hf.s, hf.l⟩
  have HN16 : Hid (0 ≤ P4.N ∧ P4.N ≤ 16) := by have := may_yes hmw.may; show _ ∧ _; rw [e4.2.2.2.1]; omega
  have HE4 := Lib.hid e4
  have HP4 := Lib.hid hP4
  have jr : (c1 % 3 == 0) = false := by rw [hc1]; simpa using hr
  have jr2 : (c1 % 3 != 0) = true := by rw [hc1]; simpa using hr
  have HO : Hid (tickO P = []) := by
    show _ = _
    rw [tickO, if_neg]
    rw [← hP4, e4.2.2.2.2, hc1]; exact hr
  clear hg hsz0 hb0w hw0 hwa0 hs0 bn0 hb0
  unfold wkV Ad.v
  by_cases hO : 0 < P.O.length
  · have H4 : Hid (P4 = { P with c := c1, g := g1 }) := by show _ = _; rw [hP4, tickW, if_pos hO, hc1, hg1]
    clear hin0 h hf hmw hm hc1 hg1 hP4 e4 hr
    go_enter Tryz.func59, Tryz.ntmps59
    go_upto_region 1 with fail
    rw [HG.out, HW0.out]
    go_upto_region 2 with (first
      | (refine wpList_load_box rfl 27 _ rfl g rfl (wkC P a) (HX0.out) _ Tryz.underlying27 rfl size_wk ?_)
      | (go_at_call 15; refine (rcopyWk_any P a w0 (HIN.out _ (Below.refl _ _)) (HF.out.more (by decide))).mono ?_; rintro e w4 ⟨a4, rfl, hn4, hb4⟩; dsimp only [wkV, Ad.v]))
    obtain ⟨w5, hw5⟩ : ∃ w5, w5 = w4.alloc (.cells #[.int .i64 P.i, .int .i64 P.N, .int .i64 P.x, .slice a4.O.A a4.O.n a4.O.c, .int .i64 P.g, .int .i64 P.c, .slice a4.W.A a4.W.n a4.W.c, .slice a4.H.A a4.H.n a4.H.c, .slice a4.R.A a4.R.n a4.R.c, .slice none 0 0] 75) := ⟨_, rfl⟩
    obtain ⟨s, hs⟩ : ∃ s, s = w4.heap.size := ⟨_, rfl⟩
    rw [← hw5, ← hs]
    have hst : StAt s w0.heap.size w5 P a4 [] noAd [] := by rw [hw5, hs]; exact st_new hn4 hb4.size
    have hb5 : Below w0.heap.size w0 w5 := by rw [hw5]; exact hb4.alloc hb4.size _
    have HST := Lib.hid hst
    have HB5 := Lib.hid hb5
    have hs0 : w0.heap.size ≤ s := by rw [hs]; exact hb4.size
    have hs5 : s < w5.heap.size := hst.box.1
    clear hw5 hs hst hb5 hn4 hb4
    have k5 : w5.cell? ⟨s, 5, none⟩ = some (.int .i64 P.c) := HST.out.cells.2.2.2.2.2.1
    have hlO : P.O.length = a4.O.n := HST.out.pg.open_.len
    have hO4 : (0 : Int) < (a4.O.n : Int) := by omega
    go_upto_region 5 with (first
      | (refine wpList_store_cell rfl 3 _ _ rfl s 5 (.int .i64 c1) (wkC P a4 ++ [noAd.v]) rfl (by rw [HC1.out]; rfl) rfl rfl HST.out.box (show 5 < 10 by decide) size_int ?_
         intro w6 bx6 T6
         have k3 : w6.cell? ⟨s, 3, none⟩ = some (.slice a4.O.A a4.O.n a4.O.c) := (bx6.2 3 _ rfl).1
         have k4 : w6.cell? ⟨s, 4, none⟩ = some (.int .i64 P.g) := (bx6.2 4 _ rfl).1
         have k5 : w6.cell? ⟨s, 5, none⟩ = some (.int .i64 c1) := (bx6.2 5 _ rfl).1)
      | (refine wpList_store_cell rfl 3 _ _ rfl s 4 (.int .i64 g1) _ rfl (by rw [HG1.out]; rfl) rfl rfl bx6 (show 4 < 10 by decide) size_int ?_
         intro w7 bx7 T7
         have k5 : w7.cell? ⟨s, 5, none⟩ = some (.int .i64 c1) := (bx7.2 5 _ rfl).1))
    have t6 := T6 (fun k => k = s) rfl
    have t7 := T7 (fun k => k = s) rfl
    have tz : Touch (fun k => k = s) w5 w7 := t6.on t7
    have hstz : StAt s w0.heap.size w7 P4 a4 [] noAd [] := by
      rw [H4.out]
      exact HST.out.nums (x := P.x) (g1 := g1) (c := c1) bx7 tz
    have hbz : Below w0.heap.size w0 w7 := HB5.out.trans (tz.below (fun k hk => by omega) HB5.out.size)
    obtain ⟨wZ, hwZ⟩ : ∃ wZ, wZ = w7 := ⟨_, rfl⟩
    rw [← hwZ] at hstz hbz k5 ⊢
    have HSZ := Lib.hid hstz
    have HBZ := Lib.hid hbz
    clear hwZ bx7 t7 T7 bx6 t6 T6 hstz hbz tz HST HB5 hlO
    go_wp2_with fail
    go_ret
    exact ⟨s, w0.heap.size, a4, noAd, [], rfl, by rw [HG.out]; exact hgw, by rw [HO.out]; rw [HP4.out] at HSZ; exact HSZ.out, by rw [HG.out]; exact HB0.out.trans (HBZ.out.mono hgw)⟩
  · have H4 : Hid (P4 = { P with c := c1, g := P.g }) := by show _ = _; rw [hP4, tickW, if_neg hO, hc1]
    clear hin0 h hf hmw hm hc1 hg1 hP4 e4 hr
    go_enter Tryz.func59, Tryz.ntmps59
    go_upto_region 1 with fail
    rw [HG.out, HW0.out]
    go_upto_region 2 with (first
      | (refine wpList_load_box rfl 27 _ rfl g rfl (wkC P a) (HX0.out) _ Tryz.underlying27 rfl size_wk ?_)
      | (go_at_call 15; refine (rcopyWk_any P a w0 (HIN.out _ (Below.refl _ _)) (HF.out.more (by decide))).mono ?_; rintro e w4 ⟨a4, rfl, hn4, hb4⟩; dsimp only [wkV, Ad.v]))
    obtain ⟨w5, hw5⟩ : ∃ w5, w5 = w4.alloc (.cells #[.int .i64 P.i, .int .i64 P.N, .int .i64 P.x, .slice a4.O.A a4.O.n a4.O.c, .int .i64 P.g, .int .i64 P.c, .slice a4.W.A a4.W.n a4.W.c, .slice a4.H.A a4.H.n a4.H.c, .slice a4.R.A a4.R.n a4.R.c, .slice none 0 0] 75) := ⟨_, rfl⟩
    obtain ⟨s, hs⟩ : ∃ s, s = w4.heap.size := ⟨_, rfl⟩
    rw [← hw5, ← hs]
    have hst : StAt s w0.heap.size w5 P a4 [] noAd [] := by rw [hw5, hs]; exact st_new hn4 hb4.size
    have hb5 : Below w0.heap.size w0 w5 := by rw [hw5]; exact hb4.alloc hb4.size _
    have HST := Lib.hid hst
    have HB5 := Lib.hid hb5
    have hs0 : w0.heap.size ≤ s := by rw [hs]; exact hb4.size
    have hs5 : s < w5.heap.size := hst.box.1
    clear hw5 hs hst hb5 hn4 hb4
    have k5 : w5.cell? ⟨s, 5, none⟩ = some (.int .i64 P.c) := HST.out.cells.2.2.2.2.2.1
    have hlO : P.O.length = a4.O.n := HST.out.pg.open_.len
    have hO4 : ¬ ((0 : Int) < (a4.O.n : Int)) := by omega
    go_upto_region 5 with (first
      | (refine wpList_store_cell rfl 3 _ _ rfl s 5 (.int .i64 c1) (wkC P a4 ++ [noAd.v]) rfl (by rw [HC1.out]; rfl) rfl rfl HST.out.box (show 5 < 10 by decide) size_int ?_
         intro w6 bx6 T6
         have k3 : w6.cell? ⟨s, 3, none⟩ = some (.slice a4.O.A a4.O.n a4.O.c) := (bx6.2 3 _ rfl).1
         have k4 : w6.cell? ⟨s, 4, none⟩ = some (.int .i64 P.g) := (bx6.2 4 _ rfl).1
         have k5 : w6.cell? ⟨s, 5, none⟩ = some (.int .i64 c1) := (bx6.2 5 _ rfl).1))
    have t6 := T6 (fun k => k = s) rfl
    have tz : Touch (fun k => k = s) w5 w6 := t6
    have hstz : StAt s w0.heap.size w6 P4 a4 [] noAd [] := by
      rw [H4.out]
      exact HST.out.nums (x := P.x) (g1 := P.g) (c := c1) bx6 tz
    have hbz : Below w0.heap.size w0 w6 := HB5.out.trans (tz.below (fun k hk => by omega) HB5.out.size)
    obtain ⟨wZ, hwZ⟩ : ∃ wZ, wZ = w6 := ⟨_, rfl⟩
    rw [← hwZ] at hstz hbz k5 ⊢
    have HSZ := Lib.hid hstz
    have HBZ := Lib.hid hbz
    clear hwZ bx6 t6 T6 hstz hbz tz HST HB5 hlO
    go_wp2_with fail
    go_ret
    exact ⟨s, w0.heap.size, a4, noAd, [], rfl, by rw [HG.out]; exact hgw, by rw [HO.out]; rw [HP4.out] at HSZ; exact HSZ.out, by rw [HG.out]; exact HB0.out.trans (HBZ.out.mono hgw)⟩
set_option maxRecDepth 100000 in
set_option maxHeartbeats 16000000 in
theorem rtick_L (P : WkD) (a : WkA) (w : World) (h : WIn w P a) (hf : WFew P 300000) (hm : mayW P = true) (hr : min (P.c + 1) 1099511627776 % 3 = 0) : Calls Tryz.prog 59 #[wkV P a] w (StTo (tickW P) (tickO P) w) := by
  obtain ⟨g, hg⟩ : ∃ g, g = w.heap.size := ⟨_, rfl⟩
  obtain ⟨wa0, hwa0⟩ : ∃ wa0, wa0 = w.alloc (.cells #[.int .i64 P.i, .int .i64 P.N, .int .i64 P.x, .slice a.O.A a.O.n a.O.c, .int .i64 P.g, .int .i64 P.c, .slice a.W.A a.W.n a.W.c, .slice a.H.A a.H.n a.H.c, .slice a.R.A a.R.n a.R.c] 27) := ⟨_, rfl⟩
  have hs0 : wa0.heap.size = g + 1 := by rw [hwa0]; simp; omega
  have bn0 : Box wa0 (g) (wkC P a) := by rw [hwa0, hg]; exact box_new w (wkC P a) 27
  have hb0 : Below g w wa0 := by rw [hwa0]; exact (Below.refl _ _).alloc (by omega) _
  have HX0 : Hid (Box wa0 (g) (wkC P a)) := bn0
  obtain ⟨w0, hw0⟩ : ∃ w0, w0 = wa0 := ⟨_, rfl⟩
  rw [← hw0] at HX0
  have hsz0 : w0.heap.size = g + 1 := by rw [hw0]; exact hs0
  have hb0w : Below g w w0 := by rw [hw0]; exact hb0
  have HW0 : Hid (w.alloc (.cells #[.int .i64 P.i, .int .i64 P.N, .int .i64 P.x, .slice a.O.A a.O.n a.O.c, .int .i64 P.g, .int .i64 P.c, .slice a.W.A a.W.n a.W.c, .slice a.H.A a.H.n a.H.c, .slice a.R.A a.R.n a.R.c] 27) = w0) := by show w.alloc (.cells #[.int .i64 P.i, .int .i64 P.N, .int .i64 P.x, .slice a.O.A a.O.n a.O.c, .int .i64 P.g, .int .i64 P.c, .slice a.W.A a.W.n a.W.c, .slice a.H.A a.H.n a.H.c, .slice a.R.A a.R.n a.R.c] 27) = w0; rw [hw0, hwa0]
  have HG : Hid (w.heap.size = g) := hg.symm
  have HS0 := Lib.hid hsz0
  have HB0 := Lib.hid hb0w
  have hl0 : g < w0.heap.size := by omega
  have hgw : g ≤ w0.heap.size := by omega
  have hin0 := h.below' HB0.out HG.out
  have HIN : Hid (∀ wX, Below w0.heap.size w0 wX → WIn wX P a) := by show ∀ wX, _; exact fun wX hX => hin0.below hX
  have HF := Lib.hid hf
  have hmw := mayW_iff.1 hm
  obtain ⟨c1, hc1⟩ : ∃ c1, c1 = min (P.c + 1) 1099511627776 := ⟨_, rfl⟩
  obtain ⟨g1, hg1⟩ : ∃ g1, g1 = min (P.g + 1) 1099511627776 := ⟨_, rfl⟩
  have HC1 := Lib.hid hc1
  have HG1 := Lib.hid hg1
  have c0 := hmw.clock
  have g0 := hmw.age
  have c2 : 0 ≤ c1 ∧ c1 ≤ 1099511627776 := by omega
  obtain ⟨P4, hP4⟩ : ∃ P4, P4 = tickW P := ⟨_, rfl⟩
  have e4 : P4.W = P.W ∧ P4.H = P.H ∧ P4.i = P.i ∧ P4.N = P.N ∧ P4.c = c1 := by rw [hP4, hc1]; exact ⟨rfl, rfl, rfl, rfl, rfl⟩
  have HF4 : Hid (WFew P4 300000) := by show WFew P4 300000; rw [hP4]; exact ⟨hf.o, hf.w, hf.h, hf.r, hf.s, hf.l⟩
  have HN16 : Hid (0 ≤ P4.N ∧ P4.N ≤ 16) := by have := may_yes hmw.may; show _ ∧ _; rw [e4.2.2.2.1]; omega
  have HE4 := Lib.hid e4
  have HP4 := Lib.hid hP4
  have jr : (c1 % 3 == 0) = true := by rw [hc1]; simpa using hr
  have jr2 : (c1 % 3 != 0) = false := by rw [hc1]; simpa using hr
  have HO : Hid (tickO P = retryO P4) := by
    show _ = _
    rw [tickO, if_pos, retry_like e4.1 e4.2.1 e4.2.2.1 e4.2.2.2.1]
    rw [← hP4, e4.2.2.2.2, hc1]; exact hr
  clear hg hsz0 hb0w hw0 hwa0 hs0 bn0 hb0
  unfold wkV Ad.v
  by_cases hO : 0 < P.O.length
  · have H4 : Hid (P4 = { P with c := c1, g := g1 }) := by show _ = _; rw [hP4, tickW, if_pos hO, hc1, hg1]
    clear hin0 h hf hmw hm hc1 hg1 hP4 e4 hr
    go_enter Tryz.func59, Tryz.ntmps59
    go_upto_region 1 with fail
    rw [HG.out, HW0.out]
    go_upto_region 2 with (first
      | (refine wpList_load_box rfl 27 _ rfl g rfl (wkC P a) (HX0.out) _ Tryz.underlying27 rfl size_wk ?_)
      | (go_at_call 15; refine (rcopyWk_any P a w0 (HIN.out _ (Below.refl _ _)) (HF.out.more (by decide))).mono ?_; rintro e w4 ⟨a4, rfl, hn4, hb4⟩; dsimp only [wkV, Ad.v]))
    obtain ⟨w5, hw5⟩ : ∃ w5, w5 = w4.alloc (.cells #[.int .i64 P.i, .int .i64 P.N, .int .i64 P.x, .slice a4.O.A a4.O.n a4.O.c, .int .i64 P.g, .int .i64 P.c, .slice a4.W.A a4.W.n a4.W.c, .slice a4.H.A a4.H.n a4.H.c, .slice a4.R.A a4.R.n a4.R.c, .slice none 0 0] 75) := ⟨_, rfl⟩
    obtain ⟨s, hs⟩ : ∃ s, s = w4.heap.size := ⟨_, rfl⟩
    rw [← hw5, ← hs]
    have hst : StAt s w0.heap.size w5 P a4 [] noAd [] := by rw [hw5, hs]; exact st_new hn4 hb4.size
    have hb5 : Below w0.heap.size w0 w5 := by rw [hw5]; exact hb4.alloc hb4.size _
    have HST := Lib.hid hst
    have HB5 := Lib.hid hb5
    have hs0 : w0.heap.size ≤ s := by rw [hs]; exact hb4.size
    have hs5 : s < w5.heap.size := hst.box.1
    clear hw5 hs hst hb5 hn4 hb4
    have k5 : w5.cell? ⟨s, 5, none⟩ = some (.int .i64 P.c) := HST.out.cells.2.2.2.2.2.1
    have hlO : P.O.length = a4.O.n := HST.out.pg.open_.len
    have hO4 : (0 : Int) < (a4.O.n : Int) := by omega
    go_upto_region 5 with (first
      | (refine wpList_store_cell rfl 3 _ _ rfl s 5 (.int .i64 c1) (wkC P a4 ++ [noAd.v]) rfl (by rw [HC1.out]; rfl) rfl rfl HST.out.box (show 5 < 10 by decide) size_int ?_
         intro w6 bx6 T6
         have k3 : w6.cell? ⟨s, 3, none⟩ = some (.slice a4.O.A a4.O.n a4.O.c) := (bx6.2 3 _ rfl).1
         have k4 : w6.cell? ⟨s, 4, none⟩ = some (.int .i64 P.g) := (bx6.2 4 _ rfl).1
         have k5 : w6.cell? ⟨s, 5, none⟩ = some (.int .i64 c1) := (bx6.2 5 _ rfl).1)
      | (refine wpList_store_cell rfl 3 _ _ rfl s 4 (.int .i64 g1) _ rfl (by rw [HG1.out]; rfl) rfl rfl bx6 (show 4 < 10 by decide) size_int ?_
         intro w7 bx7 T7
         have k5 : w7.cell? ⟨s, 5, none⟩ = some (.int .i64 c1) := (bx7.2 5 _ rfl).1))
    have t6 := T6 (fun k => k = s) rfl
    have t7 := T7 (fun k => k = s) rfl
    have tz : Touch (fun k => k = s) w5 w7 := t6.on t7
    have hstz : StAt s w0.heap.size w7 P4 a4 [] noAd [] := by
      rw [H4.out]
      exact HST.out.nums (x := P.x) (g1 := g1) (c := c1) bx7 tz
    have hbz : Below w0.heap.size w0 w7 := HB5.out.trans (tz.below (fun k hk => by omega) HB5.out.size)
    obtain ⟨wZ, hwZ⟩ : ∃ wZ, wZ = w7 := ⟨_, rfl⟩
    rw [← hwZ] at hstz hbz k5 ⊢
    have HSZ := Lib.hid hstz
    have HBZ := Lib.hid hbz
    clear hwZ bx7 t7 T7 bx6 t6 T6 hstz hbz tz HST HB5 hlO
    obtain ⟨AW, nW, cW, hoW⟩ : ∃ A n c, a4.W = ⟨A, n, c⟩ := ⟨_, _, _, rfl⟩
    obtain ⟨AH, nH, cH, hoH⟩ : ∃ A n c, a4.H = ⟨A, n, c⟩ := ⟨_, _, _, rfl⟩
    have HOW := Lib.hid hoW
    have HOH := Lib.hid hoH
    have HLW : Hid (a4.ms.length = nW) := by have := HSZ.out.pg.core.waits.len; rw [hoW] at this; exact this
    have HLH : Hid (a4.hs.length = nH) := by have := HSZ.out.pg.core.held.len; rw [hoH] at this; exact this
    have HEW := Lib.hid HSZ.out.pg.core.eW
    have HEH := Lib.hid HSZ.out.pg.core.eH
    have hnW : nW ≤ 300000 := by have := HLW.out; have := len_fst HEW.out; have := HF4.out.w; omega
    obtain ⟨T, hT⟩ : ∃ T : Nat, P4.N = (T : Int) := ⟨P4.N.toNat, by have := HN16.out; omega⟩
    have HT := Lib.hid hT
    have hT16 : T ≤ 16 := by have := HN16.out; omega
    have HXP : Hid (∀ wX, Below w0.heap.size w0 wX → wX.cell? ⟨g, 0, none⟩ = some (.int .i64 P4.i) ∧ wX.cell? ⟨g, 1, none⟩ = some (.int .i64 (T : Int))) := by
      show ∀ wX, _
      intro wX hX
      have hb := HX0.out.below hX hl0
      rw [← HT.out, HE4.out.2.2.1, HE4.out.2.2.2.1]
      exact ⟨(hb.2 0 _ rfl).1, (hb.2 1 _ rfl).1⟩
    have HS0 : Hid (StAt s w0.heap.size wZ P4 a4 (retryK P4 0) noAd []) := by
      have e : retryK P4 0 = [] := rfl
      show StAt _ _ _ _ _ _ _ _
      rw [e]
      exact HSZ.out
    clear hoW hoH hT
    go_wp2_with fail
    clear k5
    go_loopw [4] (fun i wr => ∃ (k : Nat) (oK : Ad) (msK : List (OtD × Ad)), i = .int .i64 k ∧ k ≤ nW ∧ Hid ((retryK P4 k).length ≤ 16 * k) ∧ Hid (StAt s w0.heap.size wr P4 a4 (retryK P4 k) oK msK) ∧ Hid (Below w0.heap.size w0 wr)) (fun i _ => nW - (intOf i).toNat)
    case atStart => exact ⟨0, noAd, [], rfl, Nat.zero_le _, Nat.zero_le _, HS0, HBZ⟩
    case round =>
      clear HS0
      obtain ⟨k, oK, msK, rfl, hk, HLK, HS, HBK⟩ := hrel
      have i0 : (0 : Int) ≤ (k : Int) := by omega
      have k6 : wr.cell? ⟨s, 6, none⟩ = some (.slice AW nW cW) := by have := HS.out.cells.2.2.2.2.2.2.1; rw [HOW.out] at this; exact this
      have hsr : s < wr.heap.size := HS.out.box.1
      by_cases hlt : k < nW
      · obtain ⟨x, hx⟩ : ∃ x, a4.ms[k]? = some x := ⟨_, List.getElem?_eq_getElem (by rw [HLW.out]; exact hlt)⟩
        obtain ⟨gr, cr, hA, hcr, hBg, hgrl, -, hcell, -⟩ := HS.out.pg.core.waits.cells hx
        rw [HOW.out] at hA
        simp only at hA
        subst hA
        have q0 : wr.cell? ⟨gr, k * 2, none⟩ = some (.int .i64 x.1.d) := hcell 0 _ rfl
        have q1 : wr.cell? ⟨gr, k * 2 + 1, none⟩ = some (.slice x.2.A x.2.n x.2.c) := hcell 1 _ rfl
        have hxw : P4.W[k]? = some x.1 := by rw [← HEW.out, List.getElem?_map, hx]; rfl
        have HXW := Lib.hid hxw
        have hmx := List.mem_of_getElem? hx
        have HMX := Lib.hid hmx
        have HFX : Hid (x.1.S.length ≤ 300000) := HF4.out.s _ (mem_fst HEW.out hmx)
        have i1 : (k : Int) < (nW : Int) := by omega
        clear hx hcell hcr hxw hmx
        go_upto_region 11 with fail
        obtain ⟨w7, hw7⟩ : ∃ w7, w7 = wr.alloc (.cells #[.int .i64 x.1.d, .slice x.2.A x.2.n x.2.c] 56) := ⟨_, rfl⟩
        obtain ⟨xb, hxb⟩ : ∃ xb, xb = wr.heap.size := ⟨_, rfl⟩
        have hb7 : Below wr.heap.size wr w7 := by rw [hw7]; exact (Below.refl _ _).alloc (Nat.le_refl _) _
        have bx7 : Box w7 xb [.int .i64 x.1.d, .slice x.2.A x.2.n x.2.c] := by rw [hw7, hxb]; exact box_new wr _ _
        rw [← hw7, ← hxb]
        have HXB := Lib.hid bx7
        have hsxb : s < xb := by omega
        have HOX : Hid (∀ b, oK.v.ownBlock = some b → b < xb) := by show ∀ b, _; intro b hb; have := (own_lt HS.out.out.row hb).1; omega
        have HS7 := Lib.hid (HS.out.below hb7)
        have HB7 : Hid (Below w0.heap.size w0 w7) := HBK.out.trans (hb7.mono HBK.out.size)
        have x0 : w7.cell? ⟨xb, 0, none⟩ = some (.int .i64 x.1.d) := (bx7.2 0 _ rfl).1
        have hxbl : xb < w7.heap.size := bx7.1
        have hfind := sfind_is s w0.heap.size P4 a4 _ oK msK x.1.d w7 HS7.out (by have := HF4.out.h; omega)
        obtain ⟨r, hr⟩ : ∃ r, r = idxI P4.hs x.1.d := ⟨_, rfl⟩
        rw [← hr] at hfind
        have HFI := Lib.hid hfind
        clear hw7 hxb hb7 bx7 q0 q1 k6 hfind
        by_cases hr0 : 0 ≤ r
        · have hlk := idx_look (P := P4) (d := x.1.d) (by rw [← hr]; exact hr0)
          obtain ⟨p, y1, hp1, hp2, hp3⟩ := hlk
          rw [← hr] at hp1
          have HRP : Hid (r = (p : Int)) := hp1
          have HNX : Hid (retryK P4 (k + 1) = retryK P4 k ++ askW P4 x.1.d y1.a y1.n y1.L x.1.S) := by show _ = _; rw [retryK_next HXW.out, hp3]
          obtain ⟨y, hy⟩ : ∃ y, a4.hs[p]? = some y := by
            have hl : p < a4.hs.length := by rw [len_fst HEH.out]; exact (List.getElem?_eq_some_iff.1 hp2).1
            exact ⟨a4.hs[p], by simp [hl]⟩
          have hyy : y.1 = y1 := by
            rw [← HEH.out, List.getElem?_map, hy] at hp2
            simpa using hp2
          subst hyy
          have HY := Lib.hid hy
          have hmy := List.mem_of_getElem? hy
          have HMY := Lib.hid hmy
          have HYN : Hid (y.1.L.length ≤ 300000) := HF4.out.l _ (mem_fst HEH.out hmy)
          have hpn : p < nH := by rw [← HLH.out]; exact (List.getElem?_eq_some_iff.1 hy).1
          obtain ⟨gh, ch, hAh, hch, hBgh, hghl, -, hcellh, -⟩ := HS7.out.pg.core.held.cells hy
          rw [HOH.out] at hAh
          simp only at hAh
          subst hAh
          have i4 : (0 : Int) ≤ (p : Int) := by omega
          have i5 : (p : Int) < (nH : Int) := by omega
          have HLN : Hid ((retryK P4 k).length ≤ 16 * k) := HLK
          clear hp1 hp2 hp3 hr0 hy hmy hcellh hch hr
          go_upto_region 12 with (go_at_call 84; refine HFI.out.mono ?_; rintro e w' ⟨rfl, rfl⟩)
          rw [HRP.out]
          go_wp2_with fail
          go_loopw [7] (fun v wi => ∃ (j : Nat) (o2 : Ad) (ms2 : List (OtD × Ad)), v = .int .i64 ((j : Int) + 1) ∧ j ≤ T ∧ Hid (StAt s w0.heap.size wi P4 a4 (retryK P4 k ++ askTo P4 x.1.d y.1.a y.1.n y.1.L x.1.S j) o2 ms2) ∧ Hid (Touch (fun b => b = s ∨ oK.v.ownBlock = some b) w7 wi) ∧ Hid (∀ b, o2.v.ownBlock = some b → oK.v.ownBlock = some b ∨ w7.heap.size ≤ b) ∧ Hid (Below w0.heap.size w0 wi)) (fun v _ => T + 1 - (intOf v).toNat)
          case atStart => exact ⟨0, oK, msK, by simp, Nat.zero_le _, by show StAt _ _ _ _ _ _ _ _; have e : askTo P4 x.1.d y.1.a y.1.n y.1.L x.1.S 0 = [] := rfl; rw [e, List.append_nil]; exact HS7.out, Touch.refl _ _, fun b hb => .inl hb, HB7⟩
          case round =>
            obtain ⟨wi, hwi⟩ : ∃ wi, wi = wr := ⟨_, rfl⟩
            rw [← hwi] at hrel ⊢
            clear hwi
            obtain ⟨j, o2, ms2, rfl, hj, HSI, HTI, HNI, HBI⟩ := hrel
            have hp0 := HXP.out wi HBI.out
            obtain ⟨z0, z1⟩ := hp0
            have hbxi : Box wi xb [.int .i64 x.1.d, .slice x.2.A x.2.n x.2.c] := HXB.out.touch HTI.out (by rintro (e | e); omega; have := HOX.out _ e; omega)
            have xc0 : wi.cell? ⟨xb, 0, none⟩ = some (.int .i64 x.1.d) := (hbxi.2 0 _ rfl).1
            have xc1 : wi.cell? ⟨xb, 1, none⟩ = some (.slice x.2.A x.2.n x.2.c) := (hbxi.2 1 _ rfl).1
            have HBXI := Lib.hid hbxi
            have w1' : IntKind.i64.wrap ((j : Int) + 1 + 1) = (j : Int) + 1 + 1 := IntWalk.i64_in _ (by omega)
            by_cases hjt : j < T
            · have i6 : (j : Int) + 1 ≤ (T : Int) := by omega
              have i7 : decide ((j : Int) + 1 ≤ (T : Int)) = true := decide_eq_true i6
              have i8 : decide ((0 : Int) ≤ (p : Int)) = true := decide_eq_true i4
              have hsx := slIn_own (HSI.out.pg.core.waits.sub x HMX.out).1 (HSI.out.pg.core.waits.sub x HMX.out).2
              have HCI := Lib.hid (rin_is x.2.A x.2.n x.2.c x.1.S ((j : Int) + 1) wi hsx.len hsx.rd (by have := hsx.len; have := HFX.out; have e : KW.len x.1 = x.1.S.length := rfl; omega))
              obtain ⟨r2, hr2⟩ : ∃ r2, r2 = idxI x.1.S ((j : Int) + 1) := ⟨_, rfl⟩
              rw [← hr2] at HCI
              have HR2 : Hid (0 ≤ r2 ↔ (j : Int) + 1 ∈ x.1.S) := by show _ ↔ _; rw [hr2]; exact idxI_ge
              clear hsx hr2 hbxi
              by_cases hid : (j : Int) + 1 = P4.i
              · have j1 : ((j : Int) + 1 == P4.i) = true := by simp [hid]
                have j2 : ((j : Int) + 1 != P4.i) = false := by simp [hid]
                have HID := Lib.hid hid
                clear hid
                go_wp2_with fail
                go_roundw
                case rel => exact ⟨j + 1, o2, ms2, by push_cast; rfl, by omega, by show StAt _ _ _ _ _ _ _ _; rw [askTo_next, if_neg (fun h => h.1 HID.out), List.append_nil]; exact HSI.out, HTI, HNI, HBI⟩
                case measure => simp [intOf]; omega
              · have j1 : ((j : Int) + 1 == P4.i) = false := by simp [hid]
                have j2 : ((j : Int) + 1 != P4.i) = true := by simp [hid]
                have HNE := Lib.hid hid
                clear hid
                by_cases hr20 : 0 ≤ r2
                · have j3 : ¬ (r2 < 0) := by omega
                  have HIS := Lib.hid (HR2.out.1 hr20)
                  clear hr20
                  go_wp2_with (go_at_call 75; refine HCI.out.mono ?_; rintro e w' ⟨rfl, rfl⟩)
                  go_roundw
                  case rel => exact ⟨j + 1, o2, ms2, by push_cast; rfl, by omega, by show StAt _ _ _ _ _ _ _ _; rw [askTo_next, if_neg (fun h => h.2 HIS.out), List.append_nil]; exact HSI.out, HTI, HNI, HBI⟩
                  case measure => simp [intOf]; omega
                · have j3 : r2 < 0 := by omega
                  have HNS : Hid ((j : Int) + 1 ∉ x.1.S) := fun h => hr20 (HR2.out.2 h)
                  clear hr20
                  go_upto_region 16 with (go_at_call 75; refine HCI.out.mono ?_; rintro e w' ⟨rfl, rfl⟩)
                  have HYS := Lib.hid (slIn_own (HSI.out.pg.core.held.sub y HMY.out).1 (HSI.out.pg.core.held.sub y HMY.out).2)
                  have hsq : ∀ wX, Box wX xb [.int .i64 x.1.d, .slice x.2.A x.2.n x.2.c] → ∀ lX oX mX, StAt s w0.heap.size wX P4 a4 lX oX mX → SQ wX s xb (some ⟨gh, 0, none⟩) nH cH x gh p y := by
                    intro wX hbX lX oX mX hX
                    have h7 := hX.cells.2.2.2.2.2.2.2.1
                    rw [HOH.out] at h7
                    obtain ⟨gh', ch', hA', -, -, -, -, hce, -⟩ := hX.pg.core.held.cells HY.out
                    rw [HOH.out] at hA'
                    simp only [Option.some.injEq, Addr.mk.injEq, and_true] at hA'
                    subst hA'
                    exact ⟨(hbX.2 0 _ rfl).1, h7, hce 1 _ rfl, hce 2 _ rfl, hce 3 _ rfl⟩
                  have HSQ : Hid (SQ wi.drew s xb (some ⟨gh, 0, none⟩) nH cH x gh p y ∧ ∀ wX, Below wi.heap.size wi wX → SQ wX s xb (some ⟨gh, 0, none⟩) nH cH x gh p y) := ⟨hsq _ (HBXI.out.below ((Below.refl _ _).drew) HBXI.out.1) _ _ _ (HSI.out.below ((Below.refl _ _).drew)), fun wX hX => hsq wX (HBXI.out.below hX HBXI.out.1) _ _ _ (HSI.out.below hX)⟩
                  have HSQ3 : Hid (∀ (wX wY : World) (oY : Ad), Below wi.heap.size wi wX → Touch (fun b => b = s ∨ o2.v.ownBlock = some b) wX wY → ∀ {lY mY}, StAt s w0.heap.size wY P4 a4 lY oY mY → SQ wY s xb (some ⟨gh, 0, none⟩) nH cH x gh p y) := by
                    show ∀ (wX wY : World) (oY : Ad), _
                    intro wX wY oY hX hT lY mY hY
                    refine hsq wY ((HBXI.out.below hX HBXI.out.1).touch hT ?_) _ _ _ hY
                    rintro (e | e)
                    · omega
                    · rcases HNI.out _ e with e | e
                      · have := HOX.out _ e; omega
                      · omega
                  clear hsq xc0 xc1 z0 z1
                  have hxb := HXB.out
                  have hsS : StAt s w0.heap.size wi P4 a4 (retryK P4 k ++ askTo P4 x.1.d y.1.a y.1.n y.1.L x.1.S j) o2 ms2 := HSI.out
                  have hS0 : SQ wi.drew s xb (some ⟨gh, 0, none⟩) nH cH x gh p y := HSQ.out.1
                  refine wp_region_held_drew (S := fun w' => SQ w' s xb (some ⟨gh, 0, none⟩) nH cH x gh p y) (by kernel_rfl) hS0 (fun _ => ?_)
                  refine ytake_0 (v := ?vv1) (by kernel_rfl) (by kernel_rfl) (by kernel_rfl) (fun _ _ _ h => h) (Or.inl ⟨by rfl, ?hy1⟩) hS0 ?_
                  case hy1 =>
                    intro wX hSw
                    go_simp
                    try with_reducible rfl
                  try simp only [Act.put, List.setIfInBounds_toArray, List.set_cons_zero, List.set_cons_succ]
                  refine ytake_1 (v := ?vv2) (by kernel_rfl) (by kernel_rfl) (by kernel_rfl) (fun _ _ _ h => h) (Or.inl ⟨by rfl, ?hy2⟩) hS0 ?_
                  case hy2 =>
                    intro wX hSw
                    go_simp
                    try with_reducible rfl
                  try simp only [Act.put, List.setIfInBounds_toArray, List.set_cons_zero, List.set_cons_succ]
                  refine ytake_2 (v := ?vv3) (by kernel_rfl) (by kernel_rfl) (by kernel_rfl) (fun _ _ _ h => h) (Or.inl ⟨by rfl, ?hy3⟩) hS0 ?_
                  case hy3 =>
                    intro wX hSw
                    go_simp
                    try with_reducible rfl
                  try simp only [Act.put, List.setIfInBounds_toArray, List.set_cons_zero, List.set_cons_succ]
                  refine ytake_3 (v := ?vv4) (by kernel_rfl) (by kernel_rfl) (by kernel_rfl) (fun _ _ _ h => h) (Or.inl ⟨by rfl, ?hy4⟩) hS0 ?_
                  case hy4 =>
                    intro wX hSw
                    have e0 := hSw.x0
                    go_simp
                    try with_reducible rfl
                  try simp only [Act.put, List.setIfInBounds_toArray, List.set_cons_zero, List.set_cons_succ]
                  refine ytake_4 (v := ?vv5) (by kernel_rfl) (by kernel_rfl) (by kernel_rfl) (fun _ _ _ h => h) (Or.inl ⟨by rfl, ?hy5⟩) hS0 ?_
                  case hy5 =>
                    intro wX hSw
                    go_simp
                    try with_reducible rfl
                  try simp only [Act.put, List.setIfInBounds_toArray, List.set_cons_zero, List.set_cons_succ]
                  refine ytake_5 (v := ?vv6) (by kernel_rfl) (by kernel_rfl) (by kernel_rfl) (fun _ _ _ h => h) (Or.inl ⟨by rfl, ?hy6⟩) hS0 ?_
                  case hy6 =>
                    intro wX hSw
                    go_simp
                    try with_reducible rfl
                  try simp only [Act.put, List.setIfInBounds_toArray, List.set_cons_zero, List.set_cons_succ]
                  refine ytake_6 (v := ?vv7) (by kernel_rfl) (by kernel_rfl) (by kernel_rfl) (fun _ _ _ h => h) (Or.inl ⟨by rfl, ?hy7⟩) hS0 ?_
                  case hy7 =>
                    intro wX hSw
                    go_simp
                    try with_reducible rfl
                  try simp only [Act.put, List.setIfInBounds_toArray, List.set_cons_zero, List.set_cons_succ]
                  refine ytake_7 (v := ?vv8) (by kernel_rfl) (by kernel_rfl) (by kernel_rfl) (fun _ _ _ h => h) (Or.inl ⟨by rfl, ?hy8⟩) hS0 ?_
                  case hy8 =>
                    intro wX hSw
                    go_simp
                    try with_reducible rfl
                  try simp only [Act.put, List.setIfInBounds_toArray, List.set_cons_zero, List.set_cons_succ]
                  refine ytake_8 (v := ?vv9) (by kernel_rfl) (by kernel_rfl) (by kernel_rfl) (fun _ _ _ h => h) (Or.inl ⟨by rfl, ?hy9⟩) hS0 ?_
                  case hy9 =>
                    intro wX hSw
                    have e7 := hSw.s7
                    go_simp
                    try with_reducible rfl
                  try simp only [Act.put, List.setIfInBounds_toArray, List.set_cons_zero, List.set_cons_succ]
                  refine ytake_9 (v := ?vv10) (by kernel_rfl) (by kernel_rfl) (by kernel_rfl) (fun _ _ _ h => h) (Or.inl ⟨by rfl, ?hy10⟩) hS0 ?_
                  case hy10 =>
                    intro wX hSw
                    go_simp
                    try with_reducible rfl
                  try simp only [Act.put, List.setIfInBounds_toArray, List.set_cons_zero, List.set_cons_succ]
                  refine ytake_10 (v := ?vv11) (by kernel_rfl) (by kernel_rfl) (by kernel_rfl) (fun _ _ _ h => h) (Or.inl ⟨by rfl, ?hy11⟩) hS0 ?_
                  case hy11 =>
                    intro wX hSw
                    go_simp
                    try with_reducible rfl
                  try simp only [Act.put, List.setIfInBounds_toArray, List.set_cons_zero, List.set_cons_succ]
                  refine ytake_11 (v := ?vv12) (by kernel_rfl) (by kernel_rfl) (by kernel_rfl) (fun _ _ _ h => h) (Or.inl ⟨by rfl, ?hy12⟩) hS0 ?_
                  case hy12 =>
                    intro wX hSw
                    go_simp
                    try with_reducible rfl
                  try simp only [Act.put, List.setIfInBounds_toArray, List.set_cons_zero, List.set_cons_succ]
                  refine ytake_12 (v := ?vv13) (by kernel_rfl) (by kernel_rfl) (by kernel_rfl) (fun _ _ _ h => h) (Or.inl ⟨by rfl, ?hy13⟩) hS0 ?_
                  case hy13 =>
                    intro wX hSw
                    have b1 := hSw.y1
                    have b2 := hSw.y2
                    have b3 := hSw.y3
                    go_simp
                    try with_reducible rfl
                  try simp only [Act.put, List.setIfInBounds_toArray, List.set_cons_zero, List.set_cons_succ]
                  refine yready_13 (by kernel_rfl) ?_
                  intro KQ hK
                  rw [if_pos (by rfl)]
                  try go_simp
                  refine (rcopyBat_any y.1.a y.1.n y.2.A y.2.c y.2.n y.1.L _ HYS.out.len (HYS.out.below ((Below.refl _ _).drew)).rd HYS.out.cap (by have := HYS.out.len; have := HYN.out; have e : KH.len y.1 = y.1.L.length := rfl; omega)).mono ?_
                  rintro e w8 ⟨A8, c8, rfl, ho8, -, -, -, hb8⟩
                  have hb8w : Below wi.heap.size wi w8 := ((Below.refl _ _).drew).trans hb8
                  have hS8 : SQ w8 s xb (some ⟨gh, 0, none⟩) nH cH x gh p y := HSQ.out.2 w8 hb8w
                  have HO8 : Hid (w8.ownsRow wi.heap.size 40 4 (.slice A8 y.2.n c8) y.2.n (txs y.1.L)) := ho8
                  have HB8 := Lib.hid hb8w
                  clear ho8 hb8
                  refine hK.out _ _ hS8 (fun _ => ?_)
                  clear hK KQ
                  try simp only [Act.put, List.setIfInBounds_toArray, List.set_cons_zero, List.set_cons_succ]
                  refine ytake_14 (v := ?vv14) (by kernel_rfl) (by kernel_rfl) (by kernel_rfl) (fun _ _ _ h => h) (Or.inl ⟨by rfl, ?hy14⟩) hS8 ?_
                  case hy14 =>
                    intro wX hSw
                    go_simp
                    try with_reducible rfl
                  try simp only [Act.put, List.setIfInBounds_toArray, List.set_cons_zero, List.set_cons_succ]
                  refine yready_15 (by kernel_rfl) ?_
                  intro KQ hK
                  rw [if_pos (by rfl)]
                  try go_simp
                  refine (tells_any s w0.heap.size wi.heap.size P4 a4 _ o2 ms2 ⟨1, 0, (j : Int) + 1, x.1.d, y.1.a, y.1.n, y.1.L⟩ ⟨A8, y.2.n, c8⟩ w8 (HSI.out.below HB8.out) HSI.out.le HO8.out HYS.out.len (fun b hb => ?_) (by have h1 := HSI.out.lenO; rw [List.length_append] at h1; have := askTo_len P4 x.1.d y.1.a y.1.n y.1.L x.1.S j; have := HLN.out; omega)).mono ?_
                  · have hbl := (own_lt HO8.out hb).2
                    refine ⟨by have := HSI.out.box.1; omega, fun z hz hq => by have := (own_lt (HSI.out.out.sub z hz).1 hq).1; omega, fun z hz hq => by have := (own_lt (HSI.out.pg.core.held.sub z hz).1 hq).1; omega⟩
                  rintro e w9 ⟨o9, rfl, hst9, ht9, hn9⟩
                  have hS9 : SQ w9 s xb (some ⟨gh, 0, none⟩) nH cH x gh p y := HSQ3.out w8 w9 o9 hb8w ht9 hst9
                  have HST9 := Lib.hid hst9
                  have HT9 := Lib.hid ht9
                  have HN9 := Lib.hid hn9
                  clear hst9 ht9 hn9
                  refine hK.out _ _ hS9 (fun _ => ?_)
                  clear hK KQ
                  try simp only [Act.put, List.setIfInBounds_toArray, List.set_cons_zero, List.set_cons_succ]
                  refine wpAnyH_done (by kernel_rfl) ?_ _
                  have hb9 : Below w0.heap.size w0 w9 := (HBI.out.trans (HB8.out.mono HBI.out.size)).trans (HT9.out.below (fun b hb => by
                    rcases hb with e | e
                    · omega
                    · exact (own_lt HSI.out.out.row e).2) (by have := HB8.out.size; have := HBI.out.size; omega))
                  have hto : Touch (fun b => b = s ∨ oK.v.ownBlock = some b) w7 w9 := (HTI.out.on (Touch.of HB8.out)).trans HT9.out (fun b hb => by
                    rcases hb with e | e
                    · exact .inl (.inl e)
                    · exact (HNI.out b e).imp .inr id)
                  have hno : ∀ b, o9.v.ownBlock = some b → oK.v.ownBlock = some b ∨ w7.heap.size ≤ b := fun b hb => by
                    rcases HN9.out b hb with e | e
                    · exact HNI.out b e
                    · have := HTI.out.size; have := HB8.out.size; exact .inr (by omega)
                  have HTO := Lib.hid hto
                  have HNO := Lib.hid hno
                  have HB9 := Lib.hid hb9
                  have hfin : StAt s w0.heap.size w9 P4 a4 (retryK P4 k ++ askTo P4 x.1.d y.1.a y.1.n y.1.L x.1.S (j + 1)) o9 (ms2 ++ [(⟨1, P4.i, (j : Int) + 1, x.1.d, y.1.a, y.1.n, y.1.L⟩, ⟨A8, y.2.n, c8⟩)]) := by
                    rw [askTo_next, if_pos ⟨HNE.out, HNS.out⟩, ← List.append_assoc]
                    exact HST9.out
                  have HFIN := Lib.hid hfin
                  clear hfin hb9 hto hno hS9 hS8 hb8w hS0 hsS hxb
                  go_wp2_with fail
                  go_roundw
                  case rel => exact ⟨j + 1, o9, _, by push_cast; rfl, by omega, HFIN, HTO, HNO, HB9⟩
                  case measure => simp [intOf]; omega
            · have i6 : ¬ ((j : Int) + 1 ≤ (T : Int)) := by omega
              have i7 : decide ((j : Int) + 1 ≤ (T : Int)) = false := decide_eq_false i6
              obtain rfl : j = T := by omega
              have HFIN : Hid (StAt s w0.heap.size wi P4 a4 (retryK P4 (k + 1)) o2 ms2) := by
                show StAt _ _ _ _ _ _ _ _
                rw [HNX.out, ← askTo_all, HT.out]
                exact HSI.out
              have HLN2 : Hid ((retryK P4 (k + 1)).length ≤ 16 * (k + 1)) := by
                show _ ≤ _
                rw [HNX.out, List.length_append]
                have := askW_len (P := P4) (d := x.1.d) (a := y.1.a) (n := y.1.n) (L := y.1.L) (S := x.1.S) HN16.out.2
                have := HLK.out
                omega
              clear hbxi xc0 xc1
              go_wp2_with fail
              go_roundw
              case rel => exact ⟨k + 1, o2, ms2, by go_num, by omega, HLN2, HFIN, HBI⟩
              case measure => simp [intOf]; omega
        · have HNO : Hid (retryK P4 (k + 1) = retryK P4 k) := by show _ = _; rw [retryK_next HXW.out, idx_none (by rw [← hr]; exact hr0)]; simp
          have jr0 : ¬ ((0 : Int) ≤ r) := hr0
          have jr1 : decide ((0 : Int) ≤ r) = false := decide_eq_false hr0
          have hp1 := HXP.out w7 HB7.out
          obtain ⟨z0, z1⟩ := hp1
          have hfin : Hid (StAt s w0.heap.size w7 P4 a4 (retryK P4 (k + 1)) oK msK ∧ (retryK P4 (k + 1)).length ≤ 16 * (k + 1)) := by show _ ∧ _; rw [HNO.out]; exact ⟨HS7.out, by have := HLK.out; omega⟩
          clear hr0 hr
          by_cases hT1 : 1 ≤ T
          · have i6 : (1 : Int) ≤ (T : Int) := by omega
            have i7 : decide ((1 : Int) ≤ (T : Int)) = true := decide_eq_true i6
            go_wp2_with (go_at_call 84; refine HFI.out.mono ?_; rintro e w' ⟨rfl, rfl⟩)
            go_loopw [7] (fun v wi => v = .int .i64 1 ∧ w7 = wi) (fun _ _ => 0)
            case atStart => exact ⟨rfl, rfl⟩
            case round =>
              obtain ⟨rfl, rfl⟩ := hrel
              go_wp2_with fail
              go_roundw
              case rel => exact ⟨k + 1, oK, msK, by go_num, by omega, hfin.out.2, hfin.out.1, HB7⟩
              case measure => simp [intOf]; omega
          · have i6 : ¬ ((1 : Int) ≤ (T : Int)) := by omega
            have i7 : decide ((1 : Int) ≤ (T : Int)) = false := decide_eq_false i6
            go_wp2_with (go_at_call 84; refine HFI.out.mono ?_; rintro e w' ⟨rfl, rfl⟩)
            go_loopw [7] (fun v wi => v = .int .i64 1 ∧ w7 = wi) (fun _ _ => 0)
            case atStart => exact ⟨rfl, rfl⟩
            case round =>
              obtain ⟨rfl, rfl⟩ := hrel
              go_wp2_with fail
              go_roundw
              case rel => exact ⟨k + 1, oK, msK, by go_num, by omega, hfin.out.2, hfin.out.1, HB7⟩
              case measure => simp [intOf]; omega
      · have i1 : ¬ ((k : Int) < (nW : Int)) := by omega
        have HFIN : Hid (StAt s w0.heap.size wr P4 a4 (tickO P) oK msK) := by
          show StAt _ _ _ _ _ _ _ _
          rw [HO.out, ← retryK_all (P := P4) (k := k) (by rw [← len_fst HEW.out, HLW.out]; omega)]
          exact HS.out
        go_wp2_with fail
        go_ret
        exact ⟨s, w0.heap.size, a4, oK, msK, rfl, by rw [HG.out]; exact hgw, by rw [← HP4.out]; exact HFIN.out, by rw [HG.out]; exact HB0.out.trans (HBK.out.mono hgw)⟩
  · have H4 : Hid (P4 = { P with c := c1, g := P.g }) := by show _ = _; rw [hP4, tickW, if_neg hO, hc1]
    clear hin0 h hf hmw hm hc1 hg1 hP4 e4 hr
    go_enter Tryz.func59, Tryz.ntmps59
    go_upto_region 1 with fail
    rw [HG.out, HW0.out]
    go_upto_region 2 with (first
      | (refine wpList_load_box rfl 27 _ rfl g rfl (wkC P a) (HX0.out) _ Tryz.underlying27 rfl size_wk ?_)
      | (go_at_call 15; refine (rcopyWk_any P a w0 (HIN.out _ (Below.refl _ _)) (HF.out.more (by decide))).mono ?_; rintro e w4 ⟨a4, rfl, hn4, hb4⟩; dsimp only [wkV, Ad.v]))
    obtain ⟨w5, hw5⟩ : ∃ w5, w5 = w4.alloc (.cells #[.int .i64 P.i, .int .i64 P.N, .int .i64 P.x, .slice a4.O.A a4.O.n a4.O.c, .int .i64 P.g, .int .i64 P.c, .slice a4.W.A a4.W.n a4.W.c, .slice a4.H.A a4.H.n a4.H.c, .slice a4.R.A a4.R.n a4.R.c, .slice none 0 0] 75) := ⟨_, rfl⟩
    obtain ⟨s, hs⟩ : ∃ s, s = w4.heap.size := ⟨_, rfl⟩
    rw [← hw5, ← hs]
    have hst : StAt s w0.heap.size w5 P a4 [] noAd [] := by rw [hw5, hs]; exact st_new hn4 hb4.size
    have hb5 : Below w0.heap.size w0 w5 := by rw [hw5]; exact hb4.alloc hb4.size _
    have HST := Lib.hid hst
    have HB5 := Lib.hid hb5
    have hs0 : w0.heap.size ≤ s := by rw [hs]; exact hb4.size
    have hs5 : s < w5.heap.size := hst.box.1
    clear hw5 hs hst hb5 hn4 hb4
    have k5 : w5.cell? ⟨s, 5, none⟩ = some (.int .i64 P.c) := HST.out.cells.2.2.2.2.2.1
    have hlO : P.O.length = a4.O.n := HST.out.pg.open_.len
    have hO4 : ¬ ((0 : Int) < (a4.O.n : Int)) := by omega
    go_upto_region 5 with (first
      | (refine wpList_store_cell rfl 3 _ _ rfl s 5 (.int .i64 c1) (wkC P a4 ++ [noAd.v]) rfl (by rw [HC1.out]; rfl) rfl rfl HST.out.box (show 5 < 10 by decide) size_int ?_
         intro w6 bx6 T6
         have k3 : w6.cell? ⟨s, 3, none⟩ = some (.slice a4.O.A a4.O.n a4.O.c) := (bx6.2 3 _ rfl).1
         have k4 : w6.cell? ⟨s, 4, none⟩ = some (.int .i64 P.g) := (bx6.2 4 _ rfl).1
         have k5 : w6.cell? ⟨s, 5, none⟩ = some (.int .i64 c1) := (bx6.2 5 _ rfl).1))
    have t6 := T6 (fun k => k = s) rfl
    have tz : Touch (fun k => k = s) w5 w6 := t6
    have hstz : StAt s w0.heap.size w6 P4 a4 [] noAd [] := by
      rw [H4.out]
      exact HST.out.nums (x := P.x) (g1 := P.g) (c := c1) bx6 tz
    have hbz : Below w0.heap.size w0 w6 := HB5.out.trans (tz.below (fun k hk => by omega) HB5.out.size)
    obtain ⟨wZ, hwZ⟩ : ∃ wZ, wZ = w6 := ⟨_, rfl⟩
    rw [← hwZ] at hstz hbz k5 ⊢
    have HSZ := Lib.hid hstz
    have HBZ := Lib.hid hbz
    clear hwZ bx6 t6 T6 hstz hbz tz HST HB5 hlO
    obtain ⟨AW, nW, cW, hoW⟩ : ∃ A n c, a4.W = ⟨A, n, c⟩ := ⟨_, _, _, rfl⟩
    obtain ⟨AH, nH, cH, hoH⟩ : ∃ A n c, a4.H = ⟨A, n, c⟩ := ⟨_, _, _, rfl⟩
    have HOW := Lib.hid hoW
    have HOH := Lib.hid hoH
    have HLW : Hid (a4.ms.length = nW) := by have := HSZ.out.pg.core.waits.len; rw [hoW] at this; exact this
    have HLH : Hid (a4.hs.length = nH) := by have := HSZ.out.pg.core.held.len; rw [hoH] at this; exact this
    have HEW := Lib.hid HSZ.out.pg.core.eW
    have HEH := Lib.hid HSZ.out.pg.core.eH
    have hnW : nW ≤ 300000 := by have := HLW.out; have := len_fst HEW.out; have := HF4.out.w; omega
    obtain ⟨T, hT⟩ : ∃ T : Nat, P4.N = (T : Int) := ⟨P4.N.toNat, by have := HN16.out; omega⟩
    have HT := Lib.hid hT
    have hT16 : T ≤ 16 := by have := HN16.out; omega
    have HXP : Hid (∀ wX, Below w0.heap.size w0 wX → wX.cell? ⟨g, 0, none⟩ = some (.int .i64 P4.i) ∧ wX.cell? ⟨g, 1, none⟩ = some (.int .i64 (T : Int))) := by
      show ∀ wX, _
      intro wX hX
      have hb := HX0.out.below hX hl0
      rw [← HT.out, HE4.out.2.2.1, HE4.out.2.2.2.1]
      exact ⟨(hb.2 0 _ rfl).1, (hb.2 1 _ rfl).1⟩
    have HS0 : Hid (StAt s w0.heap.size wZ P4 a4 (retryK P4 0) noAd []) := by
      have e : retryK P4 0 = [] := rfl
      show StAt _ _ _ _ _ _ _ _
      rw [e]
      exact HSZ.out
    clear hoW hoH hT
    go_wp2_with fail
    clear k5
    go_loopw [4] (fun i wr => ∃ (k : Nat) (oK : Ad) (msK : List (OtD × Ad)), i = .int .i64 k ∧ k ≤ nW ∧ Hid ((retryK P4 k).length ≤ 16 * k) ∧ Hid (StAt s w0.heap.size wr P4 a4 (retryK P4 k) oK msK) ∧ Hid (Below w0.heap.size w0 wr)) (fun i _ => nW - (intOf i).toNat)
    case atStart => exact ⟨0, noAd, [], rfl, Nat.zero_le _, Nat.zero_le _, HS0, HBZ⟩
    case round =>
      clear HS0
      obtain ⟨k, oK, msK, rfl, hk, HLK, HS, HBK⟩ := hrel
      have i0 : (0 : Int) ≤ (k : Int) := by omega
      have k6 : wr.cell? ⟨s, 6, none⟩ = some (.slice AW nW cW) := by have := HS.out.cells.2.2.2.2.2.2.1; rw [HOW.out] at this; exact this
      have hsr : s < wr.heap.size := HS.out.box.1
      by_cases hlt : k < nW
      · obtain ⟨x, hx⟩ : ∃ x, a4.ms[k]? = some x := ⟨_, List.getElem?_eq_getElem (by rw [HLW.out]; exact hlt)⟩
        obtain ⟨gr, cr, hA, hcr, hBg, hgrl, -, hcell, -⟩ := HS.out.pg.core.waits.cells hx
        rw [HOW.out] at hA
        simp only at hA
        subst hA
        have q0 : wr.cell? ⟨gr, k * 2, none⟩ = some (.int .i64 x.1.d) := hcell 0 _ rfl
        have q1 : wr.cell? ⟨gr, k * 2 + 1, none⟩ = some (.slice x.2.A x.2.n x.2.c) := hcell 1 _ rfl
        have hxw : P4.W[k]? = some x.1 := by rw [← HEW.out, List.getElem?_map, hx]; rfl
        have HXW := Lib.hid hxw
        have hmx := List.mem_of_getElem? hx
        have HMX := Lib.hid hmx
        have HFX : Hid (x.1.S.length ≤ 300000) := HF4.out.s _ (mem_fst HEW.out hmx)
        have i1 : (k : Int) < (nW : Int) := by omega
        clear hx hcell hcr hxw hmx
        go_upto_region 11 with fail
        obtain ⟨w7, hw7⟩ : ∃ w7, w7 = wr.alloc (.cells #[.int .i64 x.1.d, .slice x.2.A x.2.n x.2.c] 56) := ⟨_, rfl⟩
        obtain ⟨xb, hxb⟩ : ∃ xb, xb = wr.heap.size := ⟨_, rfl⟩
        have hb7 : Below wr.heap.size wr w7 := by rw [hw7]; exact (Below.refl _ _).alloc (Nat.le_refl _) _
        have bx7 : Box w7 xb [.int .i64 x.1.d, .slice x.2.A x.2.n x.2.c] := by rw [hw7, hxb]; exact box_new wr _ _
        rw [← hw7, ← hxb]
        have HXB := Lib.hid bx7
        have hsxb : s < xb := by omega
        have HOX : Hid (∀ b, oK.v.ownBlock = some b → b < xb) := by show ∀ b, _; intro b hb; have := (own_lt HS.out.out.row hb).1; omega
        have HS7 := Lib.hid (HS.out.below hb7)
        have HB7 : Hid (Below w0.heap.size w0 w7) := HBK.out.trans (hb7.mono HBK.out.size)
        have x0 : w7.cell? ⟨xb, 0, none⟩ = some (.int .i64 x.1.d) := (bx7.2 0 _ rfl).1
        have hxbl : xb < w7.heap.size := bx7.1
        have hfind := sfind_is s w0.heap.size P4 a4 _ oK msK x.1.d w7 HS7.out (by have := HF4.out.h; omega)
        obtain ⟨r, hr⟩ : ∃ r, r = idxI P4.hs x.1.d := ⟨_, rfl⟩
        rw [← hr] at hfind
        have HFI := Lib.hid hfind
        clear hw7 hxb hb7 bx7 q0 q1 k6 hfind
        by_cases hr0 : 0 ≤ r
        · have hlk := idx_look (P := P4) (d := x.1.d) (by rw [← hr]; exact hr0)
          obtain ⟨p, y1, hp1, hp2, hp3⟩ := hlk
          rw [← hr] at hp1
          have HRP : Hid (r = (p : Int)) := hp1
          have HNX : Hid (retryK P4 (k + 1) = retryK P4 k ++ askW P4 x.1.d y1.a y1.n y1.L x.1.S) := by show _ = _; rw [retryK_next HXW.out, hp3]
          obtain ⟨y, hy⟩ : ∃ y, a4.hs[p]? = some y := by
            have hl : p < a4.hs.length := by rw [len_fst HEH.out]; exact (List.getElem?_eq_some_iff.1 hp2).1
            exact ⟨a4.hs[p], by simp [hl]⟩
          have hyy : y.1 = y1 := by
            rw [← HEH.out, List.getElem?_map, hy] at hp2
            simpa using hp2
          subst hyy
          have HY := Lib.hid hy
          have hmy := List.mem_of_getElem? hy
          have HMY := Lib.hid hmy
          have HYN : Hid (y.1.L.length ≤ 300000) := HF4.out.l _ (mem_fst HEH.out hmy)
          have hpn : p < nH := by rw [← HLH.out]; exact (List.getElem?_eq_some_iff.1 hy).1
          obtain ⟨gh, ch, hAh, hch, hBgh, hghl, -, hcellh, -⟩ := HS7.out.pg.core.held.cells hy
          rw [HOH.out] at hAh
          simp only at hAh
          subst hAh
          have i4 : (0 : Int) ≤ (p : Int) := by omega
          have i5 : (p : Int) < (nH : Int) := by omega
          have HLN : Hid ((retryK P4 k).length ≤ 16 * k) := HLK
          clear hp1 hp2 hp3 hr0 hy hmy hcellh hch hr
          go_upto_region 12 with (go_at_call 84; refine HFI.out.mono ?_; rintro e w' ⟨rfl, rfl⟩)
          rw [HRP.out]
          go_wp2_with fail
          go_loopw [7] (fun v wi => ∃ (j : Nat) (o2 : Ad) (ms2 : List (OtD × Ad)), v = .int .i64 ((j : Int) + 1) ∧ j ≤ T ∧ Hid (StAt s w0.heap.size wi P4 a4 (retryK P4 k ++ askTo P4 x.1.d y.1.a y.1.n y.1.L x.1.S j) o2 ms2) ∧ Hid (Touch (fun b => b = s ∨ oK.v.ownBlock = some b) w7 wi) ∧ Hid (∀ b, o2.v.ownBlock = some b → oK.v.ownBlock = some b ∨ w7.heap.size ≤ b) ∧ Hid (Below w0.heap.size w0 wi)) (fun v _ => T + 1 - (intOf v).toNat)
          case atStart => exact ⟨0, oK, msK, by simp, Nat.zero_le _, by show StAt _ _ _ _ _ _ _ _; have e : askTo P4 x.1.d y.1.a y.1.n y.1.L x.1.S 0 = [] := rfl; rw [e, List.append_nil]; exact HS7.out, Touch.refl _ _, fun b hb => .inl hb, HB7⟩
          case round =>
            obtain ⟨wi, hwi⟩ : ∃ wi, wi = wr := ⟨_, rfl⟩
            rw [← hwi] at hrel ⊢
            clear hwi
            obtain ⟨j, o2, ms2, rfl, hj, HSI, HTI, HNI, HBI⟩ := hrel
            have hp0 := HXP.out wi HBI.out
            obtain ⟨z0, z1⟩ := hp0
            have hbxi : Box wi xb [.int .i64 x.1.d, .slice x.2.A x.2.n x.2.c] := HXB.out.touch HTI.out (by rintro (e | e); omega; have := HOX.out _ e; omega)
            have xc0 : wi.cell? ⟨xb, 0, none⟩ = some (.int .i64 x.1.d) := (hbxi.2 0 _ rfl).1
            have xc1 : wi.cell? ⟨xb, 1, none⟩ = some (.slice x.2.A x.2.n x.2.c) := (hbxi.2 1 _ rfl).1
            have HBXI := Lib.hid hbxi
            have w1' : IntKind.i64.wrap ((j : Int) + 1 + 1) = (j : Int) + 1 + 1 := IntWalk.i64_in _ (by omega)
            by_cases hjt : j < T
            · have i6 : (j : Int) + 1 ≤ (T : Int) := by omega
              have i7 : decide ((j : Int) + 1 ≤ (T : Int)) = true := decide_eq_true i6
              have i8 : decide ((0 : Int) ≤ (p : Int)) = true := decide_eq_true i4
              have hsx := slIn_own (HSI.out.pg.core.waits.sub x HMX.out).1 (HSI.out.pg.core.waits.sub x HMX.out).2
              have HCI := Lib.hid (rin_is x.2.A x.2.n x.2.c x.1.S ((j : Int) + 1) wi hsx.len hsx.rd (by have := hsx.len; have := HFX.out; have e : KW.len x.1 = x.1.S.length := rfl; omega))
              obtain ⟨r2, hr2⟩ : ∃ r2, r2 = idxI x.1.S ((j : Int) + 1) := ⟨_, rfl⟩
              rw [← hr2] at HCI
              have HR2 : Hid (0 ≤ r2 ↔ (j : Int) + 1 ∈ x.1.S) := by show _ ↔ _; rw [hr2]; exact idxI_ge
              clear hsx hr2 hbxi
              by_cases hid : (j : Int) + 1 = P4.i
              · have j1 : ((j : Int) + 1 == P4.i) = true := by simp [hid]
                have j2 : ((j : Int) + 1 != P4.i) = false := by simp [hid]
                have HID := Lib.hid hid
                clear hid
                go_wp2_with fail
                go_roundw
                case rel => exact ⟨j + 1, o2, ms2, by push_cast; rfl, by omega, by show StAt _ _ _ _ _ _ _ _; rw [askTo_next, if_neg (fun h => h.1 HID.out), List.append_nil]; exact HSI.out, HTI, HNI, HBI⟩
                case measure => simp [intOf]; omega
              · have j1 : ((j : Int) + 1 == P4.i) = false := by simp [hid]
                have j2 : ((j : Int) + 1 != P4.i) = true := by simp [hid]
                have HNE := Lib.hid hid
                clear hid
                by_cases hr20 : 0 ≤ r2
                · have j3 : ¬ (r2 < 0) := by omega
                  have HIS := Lib.hid (HR2.out.1 hr20)
                  clear hr20
                  go_wp2_with (go_at_call 75; refine HCI.out.mono ?_; rintro e w' ⟨rfl, rfl⟩)
                  go_roundw
                  case rel => exact ⟨j + 1, o2, ms2, by push_cast; rfl, by omega, by show StAt _ _ _ _ _ _ _ _; rw [askTo_next, if_neg (fun h => h.2 HIS.out), List.append_nil]; exact HSI.out, HTI, HNI, HBI⟩
                  case measure => simp [intOf]; omega
                · have j3 : r2 < 0 := by omega
                  have HNS : Hid ((j : Int) + 1 ∉ x.1.S) := fun h => hr20 (HR2.out.2 h)
                  clear hr20
                  go_upto_region 16 with (go_at_call 75; refine HCI.out.mono ?_; rintro e w' ⟨rfl, rfl⟩)
                  have HYS := Lib.hid (slIn_own (HSI.out.pg.core.held.sub y HMY.out).1 (HSI.out.pg.core.held.sub y HMY.out).2)
                  have hsq : ∀ wX, Box wX xb [.int .i64 x.1.d, .slice x.2.A x.2.n x.2.c] → ∀ lX oX mX, StAt s w0.heap.size wX P4 a4 lX oX mX → SQ wX s xb (some ⟨gh, 0, none⟩) nH cH x gh p y := by
                    intro wX hbX lX oX mX hX
                    have h7 := hX.cells.2.2.2.2.2.2.2.1
                    rw [HOH.out] at h7
                    obtain ⟨gh', ch', hA', -, -, -, -, hce, -⟩ := hX.pg.core.held.cells HY.out
                    rw [HOH.out] at hA'
                    simp only [Option.some.injEq, Addr.mk.injEq, and_true] at hA'
                    subst hA'
                    exact ⟨(hbX.2 0 _ rfl).1, h7, hce 1 _ rfl, hce 2 _ rfl, hce 3 _ rfl⟩
                  have HSQ : Hid (SQ wi.drew s xb (some ⟨gh, 0, none⟩) nH cH x gh p y ∧ ∀ wX, Below wi.heap.size wi wX → SQ wX s xb (some ⟨gh, 0, none⟩) nH cH x gh p y) := ⟨hsq _ (HBXI.out.below ((Below.refl _ _).drew) HBXI.out.1) _ _ _ (HSI.out.below ((Below.refl _ _).drew)), fun wX hX => hsq wX (HBXI.out.below hX HBXI.out.1) _ _ _ (HSI.out.below hX)⟩
                  have HSQ3 : Hid (∀ (wX wY : World) (oY : Ad), Below wi.heap.size wi wX → Touch (fun b => b = s ∨ o2.v.ownBlock = some b) wX wY → ∀ {lY mY}, StAt s w0.heap.size wY P4 a4 lY oY mY → SQ wY s xb (some ⟨gh, 0, none⟩) nH cH x gh p y) := by
                    show ∀ (wX wY : World) (oY : Ad), _
                    intro wX wY oY hX hT lY mY hY
                    refine hsq wY ((HBXI.out.below hX HBXI.out.1).touch hT ?_) _ _ _ hY
                    rintro (e | e)
                    · omega
                    · rcases HNI.out _ e with e | e
                      · have := HOX.out _ e; omega
                      · omega
                  clear hsq xc0 xc1 z0 z1
                  have hxb := HXB.out
                  have hsS : StAt s w0.heap.size wi P4 a4 (retryK P4 k ++ askTo P4 x.1.d y.1.a y.1.n y.1.L x.1.S j) o2 ms2 := HSI.out
                  have hS0 : SQ wi.drew s xb (some ⟨gh, 0, none⟩) nH cH x gh p y := HSQ.out.1
                  refine wp_region_held_drew (S := fun w' => SQ w' s xb (some ⟨gh, 0, none⟩) nH cH x gh p y) (by kernel_rfl) hS0 (fun _ => ?_)
                  refine ytake_0 (v := ?vv15) (by kernel_rfl) (by kernel_rfl) (by kernel_rfl) (fun _ _ _ h => h) (Or.inl ⟨by rfl, ?hy15⟩) hS0 ?_
                  case hy15 =>
                    intro wX hSw
                    go_simp
                    try with_reducible rfl
                  try simp only [Act.put, List.setIfInBounds_toArray, List.set_cons_zero, List.set_cons_succ]
                  refine ytake_1 (v := ?vv16) (by kernel_rfl) (by kernel_rfl) (by kernel_rfl) (fun _ _ _ h => h) (Or.inl ⟨by rfl, ?hy16⟩) hS0 ?_
                  case hy16 =>
                    intro wX hSw
                    go_simp
                    try with_reducible rfl
                  try simp only [Act.put, List.setIfInBounds_toArray, List.set_cons_zero, List.set_cons_succ]
                  refine ytake_2 (v := ?vv17) (by kernel_rfl) (by kernel_rfl) (by kernel_rfl) (fun _ _ _ h => h) (Or.inl ⟨by rfl, ?hy17⟩) hS0 ?_
                  case hy17 =>
                    intro wX hSw
                    go_simp
                    try with_reducible rfl
                  try simp only [Act.put, List.setIfInBounds_toArray, List.set_cons_zero, List.set_cons_succ]
                  refine ytake_3 (v := ?vv18) (by kernel_rfl) (by kernel_rfl) (by kernel_rfl) (fun _ _ _ h => h) (Or.inl ⟨by rfl, ?hy18⟩) hS0 ?_
                  case hy18 =>
                    intro wX hSw
                    have e0 := hSw.x0
                    go_simp
                    try with_reducible rfl
                  try simp only [Act.put, List.setIfInBounds_toArray, List.set_cons_zero, List.set_cons_succ]
                  refine ytake_4 (v := ?vv19) (by kernel_rfl) (by kernel_rfl) (by kernel_rfl) (fun _ _ _ h => h) (Or.inl ⟨by rfl, ?hy19⟩) hS0 ?_
                  case hy19 =>
                    intro wX hSw
                    go_simp
                    try with_reducible rfl
                  try simp only [Act.put, List.setIfInBounds_toArray, List.set_cons_zero, List.set_cons_succ]
                  refine ytake_5 (v := ?vv20) (by kernel_rfl) (by kernel_rfl) (by kernel_rfl) (fun _ _ _ h => h) (Or.inl ⟨by rfl, ?hy20⟩) hS0 ?_
                  case hy20 =>
                    intro wX hSw
                    go_simp
                    try with_reducible rfl
                  try simp only [Act.put, List.setIfInBounds_toArray, List.set_cons_zero, List.set_cons_succ]
                  refine ytake_6 (v := ?vv21) (by kernel_rfl) (by kernel_rfl) (by kernel_rfl) (fun _ _ _ h => h) (Or.inl ⟨by rfl, ?hy21⟩) hS0 ?_
                  case hy21 =>
                    intro wX hSw
                    go_simp
                    try with_reducible rfl
                  try simp only [Act.put, List.setIfInBounds_toArray, List.set_cons_zero, List.set_cons_succ]
                  refine ytake_7 (v := ?vv22) (by kernel_rfl) (by kernel_rfl) (by kernel_rfl) (fun _ _ _ h => h) (Or.inl ⟨by rfl, ?hy22⟩) hS0 ?_
                  case hy22 =>
                    intro wX hSw
                    go_simp
                    try with_reducible rfl
                  try simp only [Act.put, List.setIfInBounds_toArray, List.set_cons_zero, List.set_cons_succ]
                  refine ytake_8 (v := ?vv23) (by kernel_rfl) (by kernel_rfl) (by kernel_rfl) (fun _ _ _ h => h) (Or.inl ⟨by rfl, ?hy23⟩) hS0 ?_
                  case hy23 =>
                    intro wX hSw
                    have e7 := hSw.s7
                    go_simp
                    try with_reducible rfl
                  try simp only [Act.put, List.setIfInBounds_toArray, List.set_cons_zero, List.set_cons_succ]
                  refine ytake_9 (v := ?vv24) (by kernel_rfl) (by kernel_rfl) (by kernel_rfl) (fun _ _ _ h => h) (Or.inl ⟨by rfl, ?hy24⟩) hS0 ?_
                  case hy24 =>
                    intro wX hSw
                    go_simp
                    try with_reducible rfl
                  try simp only [Act.put, List.setIfInBounds_toArray, List.set_cons_zero, List.set_cons_succ]
                  refine ytake_10 (v := ?vv25) (by kernel_rfl) (by kernel_rfl) (by kernel_rfl) (fun _ _ _ h => h) (Or.inl ⟨by rfl, ?hy25⟩) hS0 ?_
                  case hy25 =>
                    intro wX hSw
                    go_simp
                    try with_reducible rfl
                  try simp only [Act.put, List.setIfInBounds_toArray, List.set_cons_zero, List.set_cons_succ]
                  refine ytake_11 (v := ?vv26) (by kernel_rfl) (by kernel_rfl) (by kernel_rfl) (fun _ _ _ h => h) (Or.inl ⟨by rfl, ?hy26⟩) hS0 ?_
                  case hy26 =>
                    intro wX hSw
                    go_simp
                    try with_reducible rfl
                  try simp only [Act.put, List.setIfInBounds_toArray, List.set_cons_zero, List.set_cons_succ]
                  refine ytake_12 (v := ?vv27) (by kernel_rfl) (by kernel_rfl) (by kernel_rfl) (fun _ _ _ h => h) (Or.inl ⟨by rfl, ?hy27⟩) hS0 ?_
                  case hy27 =>
                    intro wX hSw
                    have b1 := hSw.y1
                    have b2 := hSw.y2
                    have b3 := hSw.y3
                    go_simp
                    try with_reducible rfl
                  try simp only [Act.put, List.setIfInBounds_toArray, List.set_cons_zero, List.set_cons_succ]
                  refine yready_13 (by kernel_rfl) ?_
                  intro KQ hK
                  rw [if_pos (by rfl)]
                  try go_simp
                  refine (rcopyBat_any y.1.a y.1.n y.2.A y.2.c y.2.n y.1.L _ HYS.out.len (HYS.out.below ((Below.refl _ _).drew)).rd HYS.out.cap (by have := HYS.out.len; have := HYN.out; have e : KH.len y.1 = y.1.L.length := rfl; omega)).mono ?_
                  rintro e w8 ⟨A8, c8, rfl, ho8, -, -, -, hb8⟩
                  have hb8w : Below wi.heap.size wi w8 := ((Below.refl _ _).drew).trans hb8
                  have hS8 : SQ w8 s xb (some ⟨gh, 0, none⟩) nH cH x gh p y := HSQ.out.2 w8 hb8w
                  have HO8 : Hid (w8.ownsRow wi.heap.size 40 4 (.slice A8 y.2.n c8) y.2.n (txs y.1.L)) := ho8
                  have HB8 := Lib.hid hb8w
                  clear ho8 hb8
                  refine hK.out _ _ hS8 (fun _ => ?_)
                  clear hK KQ
                  try simp only [Act.put, List.setIfInBounds_toArray, List.set_cons_zero, List.set_cons_succ]
                  refine ytake_14 (v := ?vv28) (by kernel_rfl) (by kernel_rfl) (by kernel_rfl) (fun _ _ _ h => h) (Or.inl ⟨by rfl, ?hy28⟩) hS8 ?_
                  case hy28 =>
                    intro wX hSw
                    go_simp
                    try with_reducible rfl
                  try simp only [Act.put, List.setIfInBounds_toArray, List.set_cons_zero, List.set_cons_succ]
                  refine yready_15 (by kernel_rfl) ?_
                  intro KQ hK
                  rw [if_pos (by rfl)]
                  try go_simp
                  refine (tells_any s w0.heap.size wi.heap.size P4 a4 _ o2 ms2 ⟨1, 0, (j : Int) + 1, x.1.d, y.1.a, y.1.n, y.1.L⟩ ⟨A8, y.2.n, c8⟩ w8 (HSI.out.below HB8.out) HSI.out.le HO8.out HYS.out.len (fun b hb => ?_) (by have h1 := HSI.out.lenO; rw [List.length_append] at h1; have := askTo_len P4 x.1.d y.1.a y.1.n y.1.L x.1.S j; have := HLN.out; omega)).mono ?_
                  · have hbl := (own_lt HO8.out hb).2
                    refine ⟨by have := HSI.out.box.1; omega, fun z hz hq => by have := (own_lt (HSI.out.out.sub z hz).1 hq).1; omega, fun z hz hq => by have := (own_lt (HSI.out.pg.core.held.sub z hz).1 hq).1; omega⟩
                  rintro e w9 ⟨o9, rfl, hst9, ht9, hn9⟩
                  have hS9 : SQ w9 s xb (some ⟨gh, 0, none⟩) nH cH x gh p y := HSQ3.out w8 w9 o9 hb8w ht9 hst9
                  have HST9 := Lib.hid hst9
                  have HT9 := Lib.hid ht9
                  have HN9 := Lib.hid hn9
                  clear hst9 ht9 hn9
                  refine hK.out _ _ hS9 (fun _ => ?_)
                  clear hK KQ
                  try simp only [Act.put, List.setIfInBounds_toArray, List.set_cons_zero, List.set_cons_succ]
                  refine wpAnyH_done (by kernel_rfl) ?_ _
                  have hb9 : Below w0.heap.size w0 w9 := (HBI.out.trans (HB8.out.mono HBI.out.size)).trans (HT9.out.below (fun b hb => by
                    rcases hb with e | e
                    · omega
                    · exact (own_lt HSI.out.out.row e).2) (by have := HB8.out.size; have := HBI.out.size; omega))
                  have hto : Touch (fun b => b = s ∨ oK.v.ownBlock = some b) w7 w9 := (HTI.out.on (Touch.of HB8.out)).trans HT9.out (fun b hb => by
                    rcases hb with e | e
                    · exact .inl (.inl e)
                    · exact (HNI.out b e).imp .inr id)
                  have hno : ∀ b, o9.v.ownBlock = some b → oK.v.ownBlock = some b ∨ w7.heap.size ≤ b := fun b hb => by
                    rcases HN9.out b hb with e | e
                    · exact HNI.out b e
                    · have := HTI.out.size; have := HB8.out.size; exact .inr (by omega)
                  have HTO := Lib.hid hto
                  have HNO := Lib.hid hno
                  have HB9 := Lib.hid hb9
                  have hfin : StAt s w0.heap.size w9 P4 a4 (retryK P4 k ++ askTo P4 x.1.d y.1.a y.1.n y.1.L x.1.S (j + 1)) o9 (ms2 ++ [(⟨1, P4.i, (j : Int) + 1, x.1.d, y.1.a, y.1.n, y.1.L⟩, ⟨A8, y.2.n, c8⟩)]) := by
                    rw [askTo_next, if_pos ⟨HNE.out, HNS.out⟩, ← List.append_assoc]
                    exact HST9.out
                  have HFIN := Lib.hid hfin
                  clear hfin hb9 hto hno hS9 hS8 hb8w hS0 hsS hxb
                  go_wp2_with fail
                  go_roundw
                  case rel => exact ⟨j + 1, o9, _, by push_cast; rfl, by omega, HFIN, HTO, HNO, HB9⟩
                  case measure => simp [intOf]; omega
            · have i6 : ¬ ((j : Int) + 1 ≤ (T : Int)) := by omega
              have i7 : decide ((j : Int) + 1 ≤ (T : Int)) = false := decide_eq_false i6
              obtain rfl : j = T := by omega
              have HFIN : Hid (StAt s w0.heap.size wi P4 a4 (retryK P4 (k + 1)) o2 ms2) := by
                show StAt _ _ _ _ _ _ _ _
                rw [HNX.out, ← askTo_all, HT.out]
                exact HSI.out
              have HLN2 : Hid ((retryK P4 (k + 1)).length ≤ 16 * (k + 1)) := by
                show _ ≤ _
                rw [HNX.out, List.length_append]
                have := askW_len (P := P4) (d := x.1.d) (a := y.1.a) (n := y.1.n) (L := y.1.L) (S := x.1.S) HN16.out.2
                have := HLK.out
                omega
              clear hbxi xc0 xc1
              go_wp2_with fail
              go_roundw
              case rel => exact ⟨k + 1, o2, ms2, by go_num, by omega, HLN2, HFIN, HBI⟩
              case measure => simp [intOf]; omega
        · have HNO : Hid (retryK P4 (k + 1) = retryK P4 k) := by show _ = _; rw [retryK_next HXW.out, idx_none (by rw [← hr]; exact hr0)]; simp
          have jr0 : ¬ ((0 : Int) ≤ r) := hr0
          have jr1 : decide ((0 : Int) ≤ r) = false := decide_eq_false hr0
          have hp1 := HXP.out w7 HB7.out
          obtain ⟨z0, z1⟩ := hp1
          have hfin : Hid (StAt s w0.heap.size w7 P4 a4 (retryK P4 (k + 1)) oK msK ∧ (retryK P4 (k + 1)).length ≤ 16 * (k + 1)) := by show _ ∧ _; rw [HNO.out]; exact ⟨HS7.out, by have := HLK.out; omega⟩
          clear hr0 hr
          by_cases hT1 : 1 ≤ T
          · have i6 : (1 : Int) ≤ (T : Int) := by omega
            have i7 : decide ((1 : Int) ≤ (T : Int)) = true := decide_eq_true i6
            go_wp2_with (go_at_call 84; refine HFI.out.mono ?_; rintro e w' ⟨rfl, rfl⟩)
            go_loopw [7] (fun v wi => v = .int .i64 1 ∧ w7 = wi) (fun _ _ => 0)
            case atStart => exact ⟨rfl, rfl⟩
            case round =>
              obtain ⟨rfl, rfl⟩ := hrel
              go_wp2_with fail
              go_roundw
              case rel => exact ⟨k + 1, oK, msK, by go_num, by omega, hfin.out.2, hfin.out.1, HB7⟩
              case measure => simp [intOf]; omega
          · have i6 : ¬ ((1 : Int) ≤ (T : Int)) := by omega
            have i7 : decide ((1 : Int) ≤ (T : Int)) = false := decide_eq_false i6
            go_wp2_with (go_at_call 84; refine HFI.out.mono ?_; rintro e w' ⟨rfl, rfl⟩)
            go_loopw [7] (fun v wi => v = .int .i64 1 ∧ w7 = wi) (fun _ _ => 0)
            case atStart => exact ⟨rfl, rfl⟩
            case round =>
              obtain ⟨rfl, rfl⟩ := hrel
              go_wp2_with fail
              go_roundw
              case rel => exact ⟨k + 1, oK, msK, by go_num, by omega, hfin.out.2, hfin.out.1, HB7⟩
              case measure => simp [intOf]; omega
      · have i1 : ¬ ((k : Int) < (nW : Int)) := by omega
        have HFIN : Hid (StAt s w0.heap.size wr P4 a4 (tickO P) oK msK) := by
          show StAt _ _ _ _ _ _ _ _
          rw [HO.out, ← retryK_all (P := P4) (k := k) (by rw [← len_fst HEW.out, HLW.out]; omega)]
          exact HS.out
        go_wp2_with fail
        go_ret
        exact ⟨s, w0.heap.size, a4, oK, msK, rfl, by rw [HG.out]; exact hgw, by rw [← HP4.out]; exact HFIN.out, by rw [HG.out]; exact HB0.out.trans (HBK.out.mono hgw)⟩
theorem rtick_any (P : WkD) (a : WkA) (w : World) (h : WIn w P a) (hf : WFew P 300000) (hm : mayW P = true) : Calls Tryz.prog 59 #[wkV P a] w (StTo (tickW P) (tickO P) w) := by
  by_cases hr : min (P.c + 1) 1099511627776 % 3 = 0
  · exact rtick_L P a w h hf hm hr
  · exact rtick_Q P a w h hf hm hr

end Go.Proofs.YteepobghdpnabaaGreat
