/-
  What is read as a message is made of numbers of the language, and its lists are short.
-/
import Derived.Test.YtafkcofocjellaaMRead
namespace Go.Proofs.Ytafkcofocjellaa
open Go.RowKit

/-- what Decode tells -/
def DecGot (w' : World) (e : Ending) : Option MsgD → Prop
  | none => e = .returned (.tuple #[msgV zeroM zeroA, .int .i64 1])
  | some m => ∃ a, e = .returned (.tuple #[msgV m a, .int .i64 0]) ∧ MsgIn w' m a
theorem dec_none {w' : World} {e : Ending} {o : Option MsgD} (h : o = none) (he : e = .returned (.tuple #[msgV zeroM zeroA, .int .i64 1])) : DecGot w' e o := by rw [h]; exact he
theorem dec_some {w' : World} {e : Ending} {o : Option MsgD} {m : MsgD} {a : MsgA} (h : o = some m) (he : e = .returned (.tuple #[msgV m a, .int .i64 0])) (hi : MsgIn w' m a) : DecGot w' e o := by rw [h]; exact ⟨a, he, hi⟩
theorem dec_in {x : List Int} {n : Int} {m : MsgD} {k f t : Int} {b : List Int} (h : restD k f t b = some m) (hx : x = k :: f :: t :: b) : decM x n = if messB m n = true then some m else none := by
  rw [hx, decM_three, h, Option.bind_some]
theorem dec_out {x : List Int} {n : Int} {k f t : Int} {b : List Int} (h : restD k f t b = none) (hx : x = k :: f :: t :: b) : decM x n = none := by
  rw [hx, decM_three, h]
  rfl
theorem wrap_byt {c : Int} (h : Byt c) : wrap64 c = c := by
  have h1 := h.1
  have h2 := h.2
  unfold wrap64
  omega
/-- what is read is made of numbers of the language, its lists are short -/
theorem i64_byt {c : Int} (h : Byt c) : I64 c := by
  have h1 := h.1
  have h2 := h.2
  unfold I64
  omega
theorem i64_dig {d : Int} {k : Nat} (hk : Sz k) (h0 : 0 ≤ d) (h1 : d < top k) : I64 d := by
  rcases hk with rfl | rfl
  · rw [top_one] at h1; unfold I64; omega
  · rw [top_three] at h1; unfold I64; omega
theorem i64s_nil : I64s [] := fun x h => by simp at h
theorem i64s_digs {l : List Int} {most : Int} (h : digsB l most = true) : I64s l := fun x hx => by
  have := (digsB_iff.1 h).2.1 x hx
  unfold I64
  omega
theorem txs_ok {a n : Int} {L : List TxD} (h : batB a n L = true) : ∀ t ∈ L, TxOk t := fun t ht => by
  have h2 : L.all txB = true := by simp only [batB, decide_eq_true_eq] at h; exact h.2.2.2.2
  have h3 := List.all_eq_true.1 h2 t ht
  simp only [txB, idB, decide_eq_true_eq] at h3
  unfold TxOk
  omega
theorem cutL_few {k : Nat} (hk : Sz k) {b l r : List Int} (hb : Byts b) (h : cutL k b = some (l, r)) : l.length ≤ 255 ∧ I64s l := by
  rw [cutL, Option.bind_eq_some_iff] at h
  obtain ⟨⟨c, b'⟩, h1, h2⟩ := h
  obtain ⟨rfl, h0, h3⟩ := cutN_get sz_one hb h1
  rw [top_one] at h3
  obtain ⟨_, h7, _, h9⟩ := cutM_get hk c.toNat b' l r (fun y hy => hb y (by simp [hy])) h2
  exact ⟨by omega, fun x hx => i64_dig hk (h9 x hx).1 (h9 x hx).2⟩
structure MsgSmall (m : MsgD) : Prop where
  ok : MsgOk m
  sL : m.L.length ≤ 255
  shB : m.hB.length ≤ 255
  shP : m.hP.length ≤ 255
  scB : m.cB.length ≤ 255
  scP : m.cP.length ≤ 255
  scS : m.cS.length ≤ 255
  sD : m.D.length ≤ 255
theorem MsgSmall.few {m : MsgD} (h : MsgSmall m) {w : World} {a : MsgA} (hi : MsgIn w m a) : MsgFew 1000000 a :=
  ⟨by have := h.sL; have := hi.zL; omega, by have := h.shB; have := hi.zhB; omega, by have := h.shP; have := hi.zhP; omega, by have := h.scB; have := hi.zcB; omega, by have := h.scP; have := hi.zcP; omega, by have := h.scS; have := hi.zcS; omega, by have := h.sD; have := hi.zD; omega⟩
theorem rest_fine {k f t : Int} {b : List Int} {m : MsgD} (hk : Byt k) (hf : Byt f) (ht : Byt t) (hb : Byts b) (h : restD k f t b = some m) : MsgSmall m := by
  have nt : ∀ x ∈ ([] : List TxD), TxOk x := fun x h => by simp at h
  by_cases h1 : k = 1 ∨ k = 3
  · rw [restD_bat h1, rdBat, Option.bind_eq_some_iff] at h
    obtain ⟨⟨d, r⟩, hd, h⟩ := h
    rw [Option.map_eq_some_iff] at h
    obtain ⟨⟨a, N, L⟩, hp, rfl⟩ := h
    obtain ⟨rfl, d0, d1⟩ := cutN_get sz_three hb hd
    have hB := (parse_get (fun y hy => hb y (by simp [hy])) hp).1
    have h5 := bat_all hB
    exact ⟨⟨i64_byt hk, i64_byt hf, i64_byt ht, i64_dig sz_three d0 d1, by show I64 a; unfold I64; omega, by show I64 N; unfold I64; omega, txs_ok hB, i64_zero, i64_zero, i64s_nil, i64s_nil, i64_zero, i64_zero, i64s_nil, i64s_nil, i64_zero, i64s_nil, i64s_nil⟩, by have := h5.2.2.1; show L.length ≤ 255; omega, by simp [zeroM], by simp [zeroM], by simp [zeroM], by simp [zeroM], by simp [zeroM], by simp [zeroM]⟩
  by_cases h2 : k = 2 ∨ k = 5
  · rw [restD_dig h2, rdDig, Option.bind_eq_some_iff] at h
    obtain ⟨⟨d, r⟩, hd, h⟩ := h
    by_cases hr : r = []
    · rw [if_pos hr] at h
      simp only [Option.some.injEq] at h
      subst h
      obtain ⟨_, d0, d1⟩ := cutN_get sz_three hb hd
      exact ⟨⟨i64_byt hk, i64_byt hf, i64_byt ht, i64_dig sz_three d0 d1, i64_zero, i64_zero, nt, i64_zero, i64_zero, i64s_nil, i64s_nil, i64_zero, i64_zero, i64s_nil, i64s_nil, i64_zero, i64s_nil, i64s_nil⟩, by simp [zeroM], by simp [zeroM], by simp [zeroM], by simp [zeroM], by simp [zeroM], by simp [zeroM], by simp [zeroM]⟩
    · rw [if_neg hr] at h; cases h
  by_cases h4 : k = 4
  · rw [restD_hdr h4, rdHdr, Option.bind_eq_some_iff] at h
    obtain ⟨⟨d, r⟩, hd, h⟩ := h
    rw [Option.map_eq_some_iff] at h
    obtain ⟨⟨a, q, B, P⟩, hp, rfl⟩ := h
    obtain ⟨rfl, d0, d1⟩ := cutN_get sz_three hb hd
    have hB := (parseH_get (fun y hy => hb y (by simp [hy])) hp).1
    obtain ⟨ha, hq, hB1, hB2⟩ := wide_all hB
    exact ⟨⟨i64_byt hk, i64_byt hf, i64_byt ht, i64_dig sz_three d0 d1, i64_zero, i64_zero, nt, by show I64 a; unfold I64; omega, by show I64 q; unfold I64; omega, fun x hx => by have := hB1.2 x hx; unfold I64; omega, fun x hx => by have := hB2.2 x hx; unfold I64; omega, i64_zero, i64_zero, i64s_nil, i64s_nil, i64_zero, i64s_nil, i64s_nil⟩, by simp [zeroM], by have := hB1.1; show B.length ≤ 255; omega, by have := hB2.1; show P.length ≤ 255; omega, by simp [zeroM], by simp [zeroM], by simp [zeroM], by simp [zeroM]⟩
  by_cases h6 : k = 6
  · rw [restD_cer h6, rdCer, Option.bind_eq_some_iff] at h
    obtain ⟨⟨d, r⟩, hd, h⟩ := h
    rw [Option.bind_eq_some_iff] at h
    obtain ⟨⟨S, r2⟩, hs, h⟩ := h
    rw [Option.map_eq_some_iff] at h
    obtain ⟨⟨a, q, B, P⟩, hp, rfl⟩ := h
    obtain ⟨rfl, d0, d1⟩ := cutN_get sz_three hb hd
    have hr : Byts r := fun y hy => hb y (by simp [hy])
    obtain ⟨hS1, hS2⟩ := cutL_few sz_one hr hs
    have hB := (parseH_get (cutL_get sz_one hr hs).2 hp).1
    obtain ⟨ha, hq, hB1, hB2⟩ := wide_all hB
    exact ⟨⟨i64_byt hk, i64_byt hf, i64_byt ht, i64_zero, i64_zero, i64_zero, nt, i64_zero, i64_zero, i64s_nil, i64s_nil, by show I64 a; unfold I64; omega, by show I64 q; unfold I64; omega, fun x hx => by have := hB1.2 x hx; unfold I64; omega, fun x hx => by have := hB2.2 x hx; unfold I64; omega, i64_dig sz_three d0 d1, hS2, i64s_nil⟩, by simp [zeroM], by simp [zeroM], by simp [zeroM], by have := hB1.1; show B.length ≤ 255; omega, by have := hB2.1; show P.length ≤ 255; omega, hS1, by simp [zeroM]⟩
  by_cases h7 : k = 7 ∨ k = 8
  · rw [restD_wan h7, rdWan, Option.bind_eq_some_iff] at h
    obtain ⟨⟨l, r⟩, hl, h⟩ := h
    by_cases hr : r = []
    · rw [if_pos hr] at h
      simp only [Option.some.injEq] at h
      subst h
      obtain ⟨hS1, hS2⟩ := cutL_few sz_three hb hl
      exact ⟨⟨i64_byt hk, i64_byt hf, i64_byt ht, i64_zero, i64_zero, i64_zero, nt, i64_zero, i64_zero, i64s_nil, i64s_nil, i64_zero, i64_zero, i64s_nil, i64s_nil, i64_zero, i64s_nil, hS2⟩, by simp [zeroM], by simp [zeroM], by simp [zeroM], by simp [zeroM], by simp [zeroM], by simp [zeroM], hS1⟩
    · rw [if_neg hr] at h; cases h
  · unfold restD at h
    rw [if_neg h1, if_neg h2, if_neg h4, if_neg h6, if_neg h7] at h
    cases h


/-- a message and an error's number, out of the result's block -/
theorem mres (tmps : Array Value) (w : World) (g : Nat) (m : MsgD) (a : MsgA) (e : Int) (h4 : tmps.getD 4 undef = .pointer (some ⟨g, 0, none⟩)) (h5 : tmps.getD 5 undef = .int .i64 e) (bx : Box w g (msgC m a)) :
    (results Try.f23 tmps).run Try.prog w = .ok (.tuple #[msgV m a, .int .i64 e]) w := by
  have rc0 := (bx.2 0 _ rfl).1
  have rc1 := (bx.2 1 _ rfl).1
  have rc2 := (bx.2 2 _ rfl).1
  have rc3 := (bx.2 3 _ rfl).1
  have rc4 := (bx.2 4 _ rfl).1
  have rc5 := (bx.2 5 _ rfl).1
  have rc6 := (bx.2 6 _ rfl).1
  have rc7 := (bx.2 7 _ rfl).1
  have rc8 := (bx.2 8 _ rfl).1
  have rc9 := (bx.2 9 _ rfl).1
  have rc10 := (bx.2 10 _ rfl).1
  have rc11 := (bx.2 11 _ rfl).1
  have rc12 := (bx.2 12 _ rfl).1
  have rc13 := (bx.2 13 _ rfl).1
  have rc14 := (bx.2 14 _ rfl).1
  have rc15 := (bx.2 15 _ rfl).1
  have rc16 := (bx.2 16 _ rfl).1
  have rc17 := (bx.2 17 _ rfl).1
  rw [Array.getD_eq_getD_getElem?] at h4 h5
  unfold msgV
  simp [results, Try.results23, go_sem, h4, h5, rc0, rc1, rc2, rc3, rc4, rc5, rc6, rc7, rc8, rc9, rc10, rc11, rc12, rc13, rc14, rc15, rc16, rc17]


end Go.Proofs.Ytafkcofocjellaa
