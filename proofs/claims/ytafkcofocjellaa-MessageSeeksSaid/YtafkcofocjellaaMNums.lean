/-
  Package message as landed: numbers in so many bytes, and lists of them, into bytes and out of them.
-/
import Derived.Test.YtafkcofocjellaaMForm
import Derived.Test.YtafkcofocjellaaHPut
import Derived.Test.YtafkcofocjellaaZA
import Derived.ScopeJumps
namespace Go.Proofs.Ytafkcofocjellaa
open Go.RowKit

/-- a row's cells, at a block -/
def Lies (w : World) (b off : Nat) (cs : List Value) : Prop := b < w.heap.size ∧ ∀ i v, cs[i]? = some v → w.cell? ⟨b, off + i, none⟩ = some v
theorem Lies.alloc {w : World} {b off : Nat} {cs : List Value} (h : Lies w b off cs) (o : Obj) : Lies (w.alloc o) b off cs :=
  ⟨by have := h.1; simp; omega, fun i v hv => (((Below.refl w.heap.size w).alloc (Nat.le_refl _) o).cell (p := ⟨b, off + i, none⟩) h.1).trans (h.2 i v hv)⟩
theorem Lies.grown {w w' : World} {b off : Nat} {cs : List Value} {row : Option Nat} (h : Lies w b off cs) (hg : w.grownBy w' row) (hne : row ≠ some b) : Lies w' b off cs :=
  ⟨Nat.lt_of_lt_of_le h.1 hg.size, fun i v hv => hg.cell (h.2 i v hv) (fun e => hne e.symm)⟩
theorem Lies.rd {w : World} {b off : Nat} {cs : List Value} (h : Lies w b off cs) : Rd w (some ⟨b, off, none⟩) cs := fun _ => ⟨b, off, rfl, h.1, h.2⟩
theorem own_far {b R n c H : Nat} {v : Value} (h : v.ownBlock = some R ∨ R = H) (h1 : v.ownBlock ≠ some b) (h2 : b < H) : (Value.slice (some ⟨R, 0, none⟩) n c).ownBlock ≠ some b := by
  show some R ≠ some b
  rcases h with h | h
  · rw [h] at h1; exact h1
  · simp; omega

/-- a row's own block -/
def Own (v : Value) : Nat → Prop := fun k => v.ownBlock = some k
/-- a list grown by more: only the row's own block, and new ones, have turned -/
def Grew (B : Nat) (e : TypeId) (v : Value) (w : World) (xs : List Value) (en : Ending) (w' : World) : Prop :=
  ∃ v', en = .returned v' ∧ w'.ownsRow B e 1 v' xs.length xs ∧ Below B w w' ∧ Touch (Own v) w w' ∧ ∀ k, v'.ownBlock = some k → Own v k ∨ w.heap.size ≤ k
theorem grew_step {F : Nat → Prop} {w wr w1 : World} {v' : Value} {R n c : Nat} (T : Touch F w wr) (hO : ∀ k, v'.ownBlock = some k → F k ∨ w.heap.size ≤ k) (o : Obj) (hg : (wr.alloc o).grownBy w1 v'.ownBlock) (hl : v'.ownBlock = some R ∨ R = wr.heap.size + 1) :
    Touch F w w1 ∧ ∀ k, (Value.slice (some ⟨R, 0, none⟩) n c).ownBlock = some k → F k ∨ w.heap.size ≤ k := by
  refine ⟨(T.alloc o).trans (Touch.grown (F := Own v') hg (fun k h => h)) hO, fun k hk => ?_⟩
  have e : R = k := Option.some.inj hk
  subst e
  rcases hl with h | h
  · exact hO R h
  · have := T.size
    exact .inr (by omega)

theorem be_step {q : Nat} (y : Int) : be (q + 1) y = (y / 256 ^ q % 256) :: be q y := rfl
theorem take_bes {k : Nat} {L : List Int} {j : Nat} (h : j < L.length) : bes k (L.take (j + 1)) = bes k (L.take j) ++ be k (L[j]?.getD 0) := by
  have e : L.take (j + 1) = L.take j ++ [L[j]?.getD 0] := by
    rw [List.take_add_one, List.getElem?_eq_getElem h]; rfl
  rw [e, bes_append]
  simp [bes]

set_option maxRecDepth 100000 in
set_option maxHeartbeats 4000000 in
theorem appendNums_any (B : Nat) (v : Value) (l : Nat) (xs : List Value) (k : Nat) (hk : Sz k) (kI : Int) (hkI : kI = (k : Int)) (b off c n : Nat) (L : List Int) (w : World) (hown : w.ownsRow B 5 1 v l xs) (hl : l ≤ 1000000) (hz : L.length = n) (hn : n ≤ 1000)
    (hr : Lies w b off (i64s L)) (hfar : v.ownBlock ≠ some b) (hL : ∀ x ∈ L, 0 ≤ x ∧ x < 1099511627777) (hB : B ≤ w.heap.size) :
    Calls Try.prog 45 #[v, .int .i64 kI, .slice (some ⟨b, off, none⟩) n c] w (Grew B 5 v w (xs ++ u8s (bes k L))) := by
  have HZ := Lib.hid hz
  have HL := Lib.hid hL
  have hkb : 1 ≤ k ∧ k ≤ 3 := by rcases hk with rfl | rfl <;> omega
  subst hkI
  clear hz hL hk
  go_enter Try.func45, Try.ntmps45
  go_wp2_with fail
  go_loopw [0, 12] (fun v' i wr => ∃ j : Nat, i = .int .i64 j ∧ j ≤ n ∧ wr.ownsRow B 5 1 v' (l + k * j) (xs ++ u8s (bes k (L.take j))) ∧ Below B w wr ∧ Lies wr b off (i64s L) ∧ v'.ownBlock ≠ some b ∧ Touch (Own v) w wr ∧ ∀ k, v'.ownBlock = some k → Own v k ∨ w.heap.size ≤ k) (fun _ i _ => n - (intOf i).toNat)
  case atStart => exact ⟨0, rfl, by omega, by simpa [bes, u8s] using hown, Below.refl _ _, hr, hfar, Touch.refl _ _, fun k h => .inl h⟩
  case round =>
    clear hown hr hfar
    obtain ⟨j, rfl, hj, ho, hb, hli, hfa, hto, how⟩ := hrel
    by_cases hlt : j < n
    · have hc1 := hli.2 j _ (i64s_at (by rw [HZ.out]; exact hlt))
      have hy := HL.out (L[j]?.getD 0) (by rw [List.getElem?_eq_getElem (by rw [HZ.out]; exact hlt)]; exact List.getElem_mem _)
      have hst := take_bes (k := k) (L := L) (j := j) (by rw [HZ.out]; exact hlt)
      obtain ⟨y, hye⟩ : ∃ y, y = L[j]?.getD 0 := ⟨_, rfl⟩
      rw [← hye] at hc1 hy hst
      have HST := Lib.hid hst
      have i0 : (0 : Int) ≤ (j : Int) := by omega
      have i1 : (j : Int) < (n : Int) := by omega
      clear hst hye
      obtain ⟨wq, rfl⟩ : ∃ wq, wq = wr := ⟨_, rfl⟩
      go_wp2_with fail
      go_loopw [0, 9] (fun v' i wr => ∃ (q : Nat) (p : List Int) (x : Int), i = .int .i64 x ∧ x = (q : Int) - 1 ∧ q ≤ k ∧ be k y = p ++ be q y ∧ p.length + q = k ∧ wr.ownsRow B 5 1 v' (l + k * j + p.length) (xs ++ u8s (bes k (L.take j) ++ p)) ∧ Below B w wr ∧ Lies wr b off (i64s L) ∧ v'.ownBlock ≠ some b ∧ Touch (Own v) w wr ∧ ∀ k, v'.ownBlock = some k → Own v k ∨ w.heap.size ≤ k) (fun _ i _ => (intOf i + 1).toNat)
      case atStart => exact ⟨k, [], _, rfl, rfl, by omega, rfl, by simp, by simpa using ho, hb, hli, hfa, hto, how⟩
      case round =>
        clear ho hb hli hfa hc1 hto how
        obtain ⟨q, p, x, rfl, hx, hq, hbe, hpl, ho, hb, hli, hfa, hto, how⟩ := hrel
        by_cases hq0 : 0 < q
        · obtain ⟨r, rfl⟩ : ∃ r, q = r + 1 := ⟨q - 1, by omega⟩
          have HBE := Lib.hid hbe
          have HPL := Lib.hid hpl
          have hlk : k * j ≤ 3 * 1000 := Nat.mul_le_mul hkb.2 (by omega)
          have hB1 := hb.size
          have hp3 : p.length ≤ 3 := by omega
          clear hbe hpl
          rcases (by omega : r = 0 ∨ r = 1 ∨ r = 2) with rfl | rfl | rfl
          · obtain rfl : x = 0 := by omega
            clear hx
            go_wp2_with (at_builtin; refine wpList_app_row _ rfl _ _ 33 rfl B 5 (.int .u8 0) 1 Try.underlying33 info_u8 rfl (by decide) _ (l + k * j + p.length) _ rfl (ho.alloc _) wr.heap.size _ rfl (cell_new _ _ _) rfl (by omega) (by simp; omega) (wr.heap.size + 1) (by simp) ?_)
            intro R cap w1 ho1 hb1 hg1 hl1 hlt1
            obtain ⟨hto1, how1⟩ := grew_step (n := l + k * j + p.length + 1) (c := cap) hto how _ hg1 hl1
            have hfa1 := own_far (n := l + k * j + p.length + 1) (c := cap) hl1 hfa (by have := hli.1; omega)
            have hli1 := (hli.alloc _).grown hg1 hfa
            have hb2 := (hb.alloc (by have := hb.size; omega) _).trans hb1
            have hnew : be k y = (p ++ [y / 1 % 256]) ++ be 0 y := by rw [HBE.out, be_step]; simp
            have ho2 := own_conv (n' := l + k * j + (p ++ [y / 1 % 256]).length) (ys := xs ++ u8s (bes k (L.take j) ++ (p ++ [y / 1 % 256]))) ho1 (by rw [u8s_append, u8s_append, u8s_append]; simp [u8s]; try omega) (by simp; omega)
            have HNE := Lib.hid hnew
            clear hnew ho1 ho hb1 hb hli hfa hg1 hl1 hto how
            go_wp2_with fail
            go_roundw
            case rel => exact ⟨0, p ++ [y / 1 % 256], _, by go_num, by omega, by omega, HNE.out, by have := HPL.out; simp; omega, ho2, hb2, hli1, hfa1, hto1, how1⟩
            case measure => simp [intOf]
          · obtain rfl : x = 1 := by omega
            clear hx
            go_wp2_with (at_builtin; refine wpList_app_row _ rfl _ _ 33 rfl B 5 (.int .u8 0) 1 Try.underlying33 info_u8 rfl (by decide) _ (l + k * j + p.length) _ rfl (ho.alloc _) wr.heap.size _ rfl (cell_new _ _ _) rfl (by omega) (by simp; omega) (wr.heap.size + 1) (by simp) ?_)
            intro R cap w1 ho1 hb1 hg1 hl1 hlt1
            obtain ⟨hto1, how1⟩ := grew_step (n := l + k * j + p.length + 1) (c := cap) hto how _ hg1 hl1
            have hfa1 := own_far (n := l + k * j + p.length + 1) (c := cap) hl1 hfa (by have := hli.1; omega)
            have hli1 := (hli.alloc _).grown hg1 hfa
            have hb2 := (hb.alloc (by have := hb.size; omega) _).trans hb1
            have hnew : be k y = (p ++ [y / 256 % 256]) ++ be 1 y := by rw [HBE.out, be_step]; simp
            have ho2 := own_conv (n' := l + k * j + (p ++ [y / 256 % 256]).length) (ys := xs ++ u8s (bes k (L.take j) ++ (p ++ [y / 256 % 256]))) ho1 (by rw [u8s_append, u8s_append, u8s_append]; simp [u8s]; try omega) (by simp; omega)
            have HNE := Lib.hid hnew
            clear hnew ho1 ho hb1 hb hli hfa hg1 hl1 hto how
            go_wp2_with fail
            go_roundw
            case rel => exact ⟨1, p ++ [y / 256 % 256], _, by go_num, by omega, by omega, HNE.out, by have := HPL.out; simp; omega, ho2, hb2, hli1, hfa1, hto1, how1⟩
            case measure => simp [intOf]
          · obtain rfl : x = 2 := by omega
            clear hx
            go_wp2_with (at_builtin; refine wpList_app_row _ rfl _ _ 33 rfl B 5 (.int .u8 0) 1 Try.underlying33 info_u8 rfl (by decide) _ (l + k * j + p.length) _ rfl (ho.alloc _) wr.heap.size _ rfl (cell_new _ _ _) rfl (by omega) (by simp; omega) (wr.heap.size + 1) (by simp) ?_)
            intro R cap w1 ho1 hb1 hg1 hl1 hlt1
            obtain ⟨hto1, how1⟩ := grew_step (n := l + k * j + p.length + 1) (c := cap) hto how _ hg1 hl1
            have hfa1 := own_far (n := l + k * j + p.length + 1) (c := cap) hl1 hfa (by have := hli.1; omega)
            have hli1 := (hli.alloc _).grown hg1 hfa
            have hb2 := (hb.alloc (by have := hb.size; omega) _).trans hb1
            have hnew : be k y = (p ++ [y / 65536 % 256]) ++ be 2 y := by rw [HBE.out, be_step]; simp
            have ho2 := own_conv (n' := l + k * j + (p ++ [y / 65536 % 256]).length) (ys := xs ++ u8s (bes k (L.take j) ++ (p ++ [y / 65536 % 256]))) ho1 (by rw [u8s_append, u8s_append, u8s_append]; simp [u8s]; try omega) (by simp; omega)
            have HNE := Lib.hid hnew
            clear hnew ho1 ho hb1 hb hli hfa hg1 hl1 hto how
            go_wp2_with fail
            go_roundw
            case rel => exact ⟨2, p ++ [y / 65536 % 256], _, by go_num, by omega, by omega, HNE.out, by have := HPL.out; simp; omega, ho2, hb2, hli1, hfa1, hto1, how1⟩
            case measure => simp [intOf]
        · obtain rfl : q = 0 := by omega
          obtain rfl : x = -1 := by omega
          have hbe2 : be k y = p := by rw [hbe]; simp [be]
          have hpl2 : p.length = k := by omega
          have ho2 := own_conv (n' := l + k * (j + 1)) (ys := xs ++ u8s (bes k (L.take (j + 1)))) ho (by rw [HST.out, hbe2]) (by rw [Nat.mul_add, hpl2]; omega)
          clear hbe hbe2 hpl hpl2 ho hx
          go_wp2_with fail
          go_roundw
          case rel => exact ⟨j + 1, by go_num, by omega, ho2, hb, hli, hfa, hto, how⟩
          case measure => simp [intOf]; omega
    · obtain rfl : j = n := by omega
      have i1 : ¬ ((j : Int) < (j : Int)) := by omega
      have ho2 := own_conv (n' := (xs ++ u8s (bes k L)).length) (ys := xs ++ u8s (bes k L)) ho (by rw [List.take_of_length_le (by rw [HZ.out]; omega)]) (by have := ho.1; rw [List.take_of_length_le (by rw [HZ.out]; omega)] at this; omega)
      go_wp2_with fail
      go_ret
      exact ⟨_, rfl, ho2, hb, hto, how⟩

theorem lies_new (w : World) (cs : List Value) (t : TypeId) : Lies (w.alloc (.cells cs.toArray t)) w.heap.size 0 cs :=
  ⟨by simp, fun i v hv => by rw [Nat.zero_add, World.cell?_alloc_at _ _ _ _ rfl]; simpa using hv⟩
theorem Lies.below {w w' : World} {b off B : Nat} {cs : List Value} (h : Lies w b off cs) (hB : b < B) (hb : Below B w w') : Lies w' b off cs :=
  ⟨Nat.lt_of_lt_of_le h.1 hb.size, fun i v hv => (hb.cell (p := ⟨b, off + i, none⟩) hB).trans (h.2 i v hv)⟩
theorem own_not_at {w : World} {B : Nat} {e : TypeId} {v : Value} {n : Nat} {xs : List Value} (h : w.ownsRow B e 1 v n xs) : v.ownBlock ≠ some w.heap.size := fun e => by
  have := (h.lt _ e).2
  omega
theorem own_not_low {w : World} {B b : Nat} {e : TypeId} {v : Value} {n : Nat} {xs : List Value} (h : w.ownsRow B e 1 v n xs) (hb : b < B) : v.ownBlock ≠ some b := fun e => by
  have := (h.lt _ e).1
  omega

set_option maxRecDepth 100000 in
set_option maxHeartbeats 1000000 in
theorem appendList_any (B : Nat) (v : Value) (l : Nat) (xs : List Value) (k : Nat) (hk : Sz k) (kI : Int) (hkI : kI = (k : Int)) (b off c n : Nat) (L : List Int) (w : World) (hown : w.ownsRow B 5 1 v l xs) (hl : l ≤ 900000) (hz : L.length = n) (hn : n ≤ 1000)
    (hr : Lies w b off (i64s L)) (hbB : b < B) (hL : ∀ x ∈ L, 0 ≤ x ∧ x < 1099511627777) (hB : B ≤ w.heap.size) :
    Calls Try.prog 48 #[v, .int .i64 kI, .slice (some ⟨b, off, none⟩) n c] w (Grew B 5 v w (xs ++ u8s (putL k L))) := by
  have HZ := Lib.hid hz
  have HL := Lib.hid hL
  have HK := Lib.hid hkI
  clear hz hL hkI
  have hxl := hown.1
  go_enter Try.func48, Try.ntmps48
  go_wp2_with fail
  refine (appendNums_any B v l xs 1 sz_one 1 rfl w.heap.size 0 1 1 [(n : Int)] _ (hown.alloc _) (by omega) rfl (by omega) (lies_new w _ _) (own_not_at hown) (fun x hx => by rw [List.mem_singleton.1 hx]; omega) (by simp; omega)).mono ?_
  rintro e w1 ⟨v1, rfl, ho1, hb1, ht1, hw1⟩
  have ht2 : Touch (Own v) w w1 := ((Touch.refl _ w).alloc _).trans ht1 (fun k h => .inl h)
  have hw2 : ∀ k, v1.ownBlock = some k → Own v k ∨ w.heap.size ≤ k := fun k h => by
    rcases hw1 k h with h | h
    · exact .inl h
    · exact .inr (by simp at h; omega)
  have hb2 : Below B w w1 := ((Below.refl B w).alloc hB _).trans hb1
  have hx2 : (xs ++ u8s (bes 1 [(n : Int)])).length = l + 1 := by rw [List.length_append, u8s_length, bes_length, List.length_singleton]; omega
  have ho1 := own_cast ho1 hx2
  clear hx2
  go_wp2_with fail
  refine (appendNums_any B v1 (l + 1) _ k hk kI HK.out b off c n L _ ho1 (by omega) HZ.out hn (hr.below hbB hb2) (own_not_low ho1 hbB) HL.out (by have := hb2.size; omega)).mono ?_
  rintro e w3 ⟨v3, rfl, ho3, hb3, ht3, hw3⟩
  have ht4 : Touch (Own v) w w3 := ht2.trans ht3 hw2
  have hw4 : ∀ k, v3.ownBlock = some k → Own v k ∨ w.heap.size ≤ k := fun k h => by
    rcases hw3 k h with h | h
    · exact hw2 k h
    · exact .inr (Nat.le_trans ht2.size h)
  have e : xs ++ u8s (bes 1 [(n : Int)]) ++ u8s (bes k L) = xs ++ u8s (putL k L) := by
    rw [putL, HZ.out, List.append_assoc, ← u8s_append]
    simp [bes]
  rw [e] at ho3
  go_wp2_with fail
  go_ret
  exact ⟨_, rfl, ho3, hb2.trans hb3, ht4, hw4⟩

/-! ### out of bytes -/
theorem beVal_snoc : ∀ (l : List Int) (acc c : Int), beVal acc (l ++ [c]) = beVal acc l * 256 + c
  | [], _, _ => rfl
  | x :: l, acc, c => by rw [List.cons_append, beVal, beVal_snoc l, beVal]
theorem beVal_two {l : List Int} (h : l.length ≤ 2) (hy : Byts l) : 0 ≤ beVal 0 l ∧ beVal 0 l ≤ 65535 := by
  match l, h with
  | [], _ => simp [beVal]
  | [x], _ =>
    have := hy x (by simp)
    unfold Byt at this
    simp only [beVal]; omega
  | [x, y], _ =>
    have h1 := hy x (by simp)
    have h2 := hy y (by simp)
    unfold Byt at h1 h2
    simp only [beVal]; omega
theorem or_byte {x c : Int} (h0 : 0 ≤ x) (h1 : x ≤ 65535) (hc : Byt c) : bits .or .i64 (x * 256) (wrap64 c) = x * 256 + c := by
  have ew : wrap64 c = c := by have h1 := hc.1; have h2 := hc.2; unfold wrap64; omega
  rw [ew]
  clear ew
  obtain ⟨m, rfl⟩ := Int.eq_ofNat_of_zero_le h0
  obtain ⟨d, rfl⟩ := Int.eq_ofNat_of_zero_le hc.1
  have hd : d < 256 := by have := hc.2; omega
  have e := nat_join 8 (m * 256) d (by omega) hd
  have h2 := bor_i64 (m * 256) d (by omega) (by omega)
  rw [e] at h2
  have e3 : ((m : Int) * 256) = ((m * 256 : Nat) : Int) := by simp
  rw [e3, h2]; simp
/-- what cutNum tells -/
def cutV (A : Option Addr) (c n k : Nat) (zs : List Int) : Value :=
  if n < k then .tuple #[.int .i64 0, .slice none 0 0, .bool false]
  else .tuple #[.int .i64 (beVal 0 (zs.take k)), .slice (if c = k then A else A.map (·.add k)) (n - k) (c - k), .bool true]
set_option maxRecDepth 100000 in
set_option maxHeartbeats 1000000 in
theorem cutNum_any (A : Option Addr) (c n : Nat) (zs : List Int) (k : Nat) (hk : Sz k) (kI : Int) (hkI : kI = (k : Int)) (w : World) (hz : zs.length = n) (hr : Rd w A (u8s zs)) (hy : Byts zs) (hc : n ≤ c) (hn : n ≤ 1000000) :
    Calls Try.prog 66 #[.slice A n c, .int .i64 kI] w fun e w' => e = .returned (cutV A c n k zs) ∧ ∃ d, w' = w.drewN d := by
  have HZ := Lib.hid hz
  have hkb : 1 ≤ k ∧ k ≤ 3 := by rcases hk with rfl | rfl <;> omega
  subst hkI
  clear hz hk
  by_cases hlt : n < k
  · have HV : Hid (cutV A c n k zs = .tuple #[.int .i64 0, .slice none 0 0, .bool false]) := by show cutV A c n k zs = _; rw [cutV, if_pos hlt]
    go_enter Try.func66, Try.ntmps66
    go_wp2_with fail
    go_ret3
    exact ⟨by rw [HV.out]; rfl, 0, rfl⟩
  · have HV : Hid (cutV A c n k zs = .tuple #[.int .i64 (beVal 0 (zs.take k)), .slice (if c = k then A else A.map (·.add k)) (n - k) (c - k), .bool true]) := by show cutV A c n k zs = _; rw [cutV, if_neg hlt]
    obtain ⟨b, off, rfl, hbl, hcell⟩ := hr.open_ (by rw [u8s_length, HZ.out]; omega)
    have HCE := Lib.hid hcell
    have i0 : k ≤ n := by omega
    clear hlt hcell
    go_enter Try.func66, Try.ntmps66
    go_wp2_with fail
    go_loop [4, 17] (fun x i => ∃ (j : Nat) (y : Int), i = .int .i64 j ∧ j ≤ k ∧ x = .int .i64 y ∧ Hid (y = beVal 0 (zs.take j))) (fun _ i => k - (intOf i).toNat)
    case atStart => exact ⟨0, 0, rfl, by omega, rfl, rfl⟩
    case round =>
      obtain ⟨j, y, rfl, hj, rfl, HY⟩ := hrel
      by_cases hlt : j < k
      · have hc1 := HCE.out j _ (u8s_at (by rw [HZ.out]; omega))
        have hbyt := hy.at_ j
        have hs : beVal 0 (zs.take (j + 1)) = y * 256 + zs[j]?.getD 0 := by
          have e : zs.take (j + 1) = zs.take j ++ [zs[j]?.getD 0] := by
            rw [List.take_add_one, List.getElem?_eq_getElem (by rw [HZ.out]; omega)]; rfl
          rw [e, beVal_snoc, HY.out]
        have hb2 := beVal_two (l := zs.take j) (by rw [List.length_take]; omega) (hy.take j)
        rw [← HY.out] at hb2
        have hor := or_byte hb2.1 hb2.2 hbyt
        have HS := Lib.hid hs
        clear hs
        go_wp2_with fail
        go_round
        case rel => exact ⟨j + 1, _, by go_num, by omega, rfl, HS.out.symm⟩
        case measure => simp [intOf]; omega
      · obtain rfl : j = k := by omega
        have i1 : ¬ ((j : Int) < (j : Int)) := by omega
        by_cases hcap : c = j
        · go_wp2_with fail
          go_quiet (fail)
          go_wp2_with fail
          go_ret3
          exact ⟨by rw [HV.out, HY.out, if_pos hcap, hcap, Nat.sub_self]; rfl, _, rfl⟩
        · go_wp2_with fail
          go_quiet (fail)
          go_wp2_with fail
          go_ret3
          exact ⟨by rw [HV.out, HY.out, if_neg hcap, Option.map_some, Addr.add_lit]; rfl, _, rfl⟩

end Go.Proofs.Ytafkcofocjellaa
