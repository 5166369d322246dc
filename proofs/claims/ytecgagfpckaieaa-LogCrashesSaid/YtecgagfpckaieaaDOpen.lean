/-
  Package disk: open, and what is said of a disk behind a call.
-/
import Derived.Test.YtecgagfpckaieaaDBegin
namespace Go.Proofs.Ytecgagfpckaieaa
open Go.RowKit

section
variable {w w' w'' : World} {g : Nat} {F F' : Nat → Prop} {D D' : PD} {vL vL' : Value} {l l' : Int} {ms ms' : List MF}
/-- a disk anew -/
theorem DiskTo.make (ht : Touch F w w') (blk : w'.heap[g]? = some (.cells #[vL', .int .i64 D'.calls, .int .i64 l', .bool D'.off] 67 (0, 0)))
    (row : w'.ownsRow 0 80 4 vL' ms'.length (cellsD ms')) (els : ∀ m ∈ ms', FileIn w' m) (nd : (dblks g vL' ms').Nodup) (inF : ∀ k ∈ dblks g vL' ms', F k ∨ w.heap.size ≤ k)
    (eqL : D'.L = ms'.map MF.pf) (rise : RiseN (namesF D'.L)) (few : ms'.length ≤ 16) (okl : D'.off = false → l' = D'.left) (lr : -9223372036854775808 ≤ l' ∧ l' ≤ 9223372036854775807) : DiskTo g F D' w w' := by
  refine ⟨fun k => (F k ∨ w.heap.size ≤ k) ∧ k < w'.heap.size, ⟨vL', l', ms', ⟨blk, row, els, nd, fun k hk => ⟨inF k hk, ?_⟩, fun k hk => hk.2, eqL, rise, few, okl, lr⟩⟩, ht, fun k hk => hk.1⟩
  simp only [dblks, List.mem_cons, List.mem_append, Option.mem_toList, List.mem_flatMap] at hk
  rcases hk with rfl | hk | ⟨m, hm, hk⟩
  · exact (Array.getElem?_eq_some_iff.1 blk).1
  · exact (own_lt row hk).1
  · simp only [MF.blks, List.mem_append, Option.mem_toList] at hk
    rcases hk with hk | hk
    · exact (own_lt (els m hm).rV hk).1
    · exact (own_lt (els m hm).rD hk).1
theorem DiskTo.same (h : IsDisk w g F D) : DiskTo g F D w w := ⟨F, h, Touch.refl _ _, fun _ hk => .inl hk⟩
theorem DiskTo.lead (h : DiskTo g F D w w') (h2 : ∀ F', IsDisk w' g F' D → DiskTo g F' D' w' w'') : DiskTo g F D' w w'' := by
  obtain ⟨F1, hd, ht, hs⟩ := h
  obtain ⟨F2, hd2, ht2, hs2⟩ := h2 F1 hd
  refine ⟨F2, hd2, ht.trans ht2 hs, fun k hk => ?_⟩
  rcases hs2 k hk with h | h
  · exact hs k h
  · exact .inr (Nat.le_trans ht.size h)
/-- a step with the same footprint, then a disk anew -/
theorem DiskTo.behind (ht : Touch F w w') (h2 : DiskTo g F D' w' w'') : DiskTo g F D' w w'' := by
  obtain ⟨F2, hd2, ht2, hs2⟩ := h2
  refine ⟨F2, hd2, ht.trans ht2 (fun k hk => .inl hk), fun k hk => ?_⟩
  rcases hs2 k hk with h | h
  · exact .inl h
  · exact .inr (Nat.le_trans ht.size h)
theorem tick_pos (D : PD) (s : ByteArray) : D.tick.pos s = D.pos s := by rw [PD.pos, PD.pos, tick_L]
theorem tick_has (D : PD) (s : ByteArray) : D.tick.has s = D.has s := by rw [PD.has, PD.has, tick_L]
theorem BeginTo.touch (h : BeginTo g F D vL ms w w') (hg : F g) : Touch F w w' := by
  obtain ⟨_, _, ht⟩ := h
  exact ht.mono fun k hk => by rw [hk]; exact hg
end

theorem open_no (g : Nat) (s : ByteArray) (w : World) (hs : s.size ≤ maxLen) (hn : okName s = false) :
    Calls Try.prog 41 #[.pointer (some ⟨g, 0, none⟩), .string s] w fun e w' => e = .returned (.tuple #[.int .i64 0, .int .i64 1]) ∧ w = w' := by
  go_enter Try.func41, Try.ntmps41
  go_wp2_with (go_at_call 47; refine (begin_no _ _ _ hs hn).mono ?_; rintro e w' ⟨rfl, rfl⟩)
  go_ret2
  exact ⟨rfl, rfl⟩
theorem open_off {F : Nat → Prop} {D : PD} {vL : Value} {l : Int} {ms : List MF} (g : Nat) (s : ByteArray) (w : World) (h : DiskIn w g F D vL l ms) (hs : s.size ≤ maxLen) (hn : okName s = true) (hc : D.calls ≤ 1000000) (hb : D.tick.off = true) :
    Calls Try.prog 41 #[.pointer (some ⟨g, 0, none⟩), .string s] w fun e w' => e = .returned (.tuple #[.int .i64 0, .int .i64 9]) ∧ BeginTo g F D.tick vL ms w w' := by
  have HD := Lib.hid h
  go_enter Try.func41, Try.ntmps41
  go_wp2_with (go_at_call 47; refine (begin_yes true _ _ _ HD.out hs hn hc hb).mono ?_; rintro e w' ⟨rfl, hto⟩)
  go_ret2
  exact ⟨rfl, hto⟩
theorem BeginTo.below {w w' w'' : World} {g : Nat} {F : Nat → Prop} {D : PD} {vL : Value} {ms : List MF} (h : BeginTo g F D vL ms w w') (hb : Below w'.heap.size w' w'') : BeginTo g F D vL ms w w'' := by
  obtain ⟨l, hd, ht⟩ := h
  exact ⟨l, hd.below hb, ht.then hb⟩
theorem open_on {F : Nat → Prop} {D : PD} {vL : Value} {l : Int} {ms : List MF} (b : Bool) (p : Nat) (g : Nat) (s : ByteArray) (w : World) (h : DiskIn w g F D vL l ms) (hs : s.size ≤ maxLen) (hn : okName s = true) (hc : D.calls ≤ 1000000) (hb : D.tick.off = false) (hh : D.has s = b) (hp : D.pos s = p) :
    Calls Try.prog 41 #[.pointer (some ⟨g, 0, none⟩), .string s] w fun e w' => e = .returned (if b = true then .tuple #[.int .i64 p, .int .i64 0] else .tuple #[.int .i64 0, .int .i64 3]) ∧ BeginTo g F D.tick vL ms w w' := by
  have HD := Lib.hid h
  have HH := Lib.hid hh
  have HP := Lib.hid hp
  clear hh hp
  cases b
  all_goals
    go_enter Try.func41, Try.ntmps41
    go_wp2_with fail
    refine (begin_yes false _ _ _ HD.out hs hn hc hb).mono ?_
    rintro e w1 ⟨rfl, hto⟩
    have HT := Lib.hid hto
    obtain ⟨l1, hd1, ht1⟩ := hto
    go_wp2_with fail
    refine (find_any g s _ hd1).mono ?_
    rintro e w2 ⟨he, hb2⟩
    rw [tick_pos, tick_has, HH.out, HP.out] at he
    subst he
    go_wp2_with fail
    go_ret2
    exact ⟨rfl, HT.out.below hb2⟩

/-- Off -/
def dOff (D : PD) (n : Int) : PD := if n < 1 then { D with off := true } else if D.off = true then D else { D with left := n.toNat }
theorem off_any {F : Nat → Prop} {D : PD} (g : Nat) (n : Int) (w : World) (h : IsDisk w g F D) (hn : -9223372036854775808 ≤ n ∧ n ≤ 9223372036854775807) :
    Calls Try.prog 18 #[.pointer (some ⟨g, 0, none⟩), .int .i64 n] w fun e w' => e = .returned (.tuple #[]) ∧ IsDisk w' g F (dOff D n) ∧ Touch (fun k => k = g) w w' := by
  obtain ⟨vL, l, ms, h⟩ := h
  have f2 := h.fz 2
  have f3 := h.fz 3
  have c2 := h.c2
  have c3 := h.c3
  have HD := Lib.hid h
  have HT : Hid (Touch (fun k => k = g) w w) := Touch.refl _ _
  clear h
  by_cases h1 : n < 1
  · have hd : dOff D n = { D with off := true } := by rw [dOff, if_pos h1]
    have HDO := Lib.hid hd
    clear hd
    go_enter Try.func18, Try.ntmps18
    go_wp2
    go_end0
    have ht := (HT.out.set (b := g) (o := 2) (.inl rfl) (.int .i64 n)).set (b := g) (o := 3) (.inl rfl) (.bool true)
    refine ⟨rfl, ⟨vL, n, ms, ?_⟩, ht⟩
    rw [HDO.out]
    exact HD.out.turn ht (heap_setCell_same _ g 3 _ _ _ (heap_setCell_same _ g 2 _ _ _ HD.out.blk)) rfl (fun h => by cases h) hn
  · go_enter Try.func18, Try.ntmps18
    go_wp2
    go_end0
    have ht := HT.out.set (b := g) (o := 2) (.inl rfl) (.int .i64 n)
    refine ⟨rfl, ⟨vL, n, ms, ?_⟩, ht⟩
    cases hoff : D.off with
    | true =>
      rw [dOff, if_neg (by omega), if_pos hoff]
      exact HD.out.turn ht (heap_setCell_same _ g 2 _ _ _ HD.out.blk) rfl (fun h => by rw [hoff] at h; cases h) hn
    | false =>
      rw [dOff, if_neg (by omega), if_neg (by rw [hoff]; decide)]
      refine HD.out.turn ht ?_ rfl (fun _ => ?_) hn
      · exact heap_setCell_same _ g 2 _ _ _ HD.out.blk
      · show n = ((n.toNat : Nat) : Int); omega

end Go.Proofs.Ytecgagfpckaieaa
