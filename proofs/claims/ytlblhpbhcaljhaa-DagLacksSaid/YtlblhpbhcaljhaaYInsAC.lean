/-
  slices.Insert of one element into a row of certificates, anywhere.
-/
import Derived.Test.YtlblhpbhcaljhaaYInsGC
import Derived.Test.YtlblhpbhcaljhaaYInsEC
namespace Go.Proofs.Ytlblhpbhcaljhaa
open Go.RowKit

theorem putIn_endC {xs us : List Value} {n : Nat} (h : xs.length = n * 6) : putInC xs us n = xs ++ us := by
  rw [putInC, List.take_of_length_le (by omega), List.drop_of_length_le (by omega), List.append_nil]

theorem insert_anyC (B gx n i : Nat) (v : Value) (xs us : List Value) (w : World) (h : w.ownsRow B 45 6 v n xs) (hB : B ≤ w.heap.size) (hi : i ≤ n) (hn : n ≤ 1000000) (h1 : ∀ v ∈ xs, v.oneCell' = true)
    (hu : us.length = 6) (hgx : w.heap[gx]? = some (.cells us.toArray 45 (0, 0))) (hu1 : ∀ v ∈ us, v.oneCell' = true) (hne : v.ownBlock ≠ some gx) :
    Calls Try.prog 59 #[v, .int .i64 i, .slice (some ⟨gx, 0, none⟩) 1 1] w fun e w' =>
      ∃ v', e = .returned v' ∧ w'.ownsRow B 45 6 v' (n + 1) (putInC xs us i) ∧ w.grownBy w' v.ownBlock ∧ (v'.ownBlock = v.ownBlock ∨ v'.ownBlock = some w.heap.size) := by
  rcases Nat.lt_or_ge i n with hlt | hge
  · rcases h.2 with ⟨rfl, h0⟩ | ⟨g, cap, cur, rfl, hb, hg, hnc, hcm, hcs, ht⟩
    · omega
    · have hgg : gx ≠ g := fun e => hne (by rw [e]; rfl)
      rcases Nat.lt_or_ge n cap with hroom | hfull
      · refine (insert_roomC B g cap n i gx xs us w h hlt (by omega) hn h1 hu hgx hu1 hgg).mono ?_
        rintro e w' ⟨rfl, h2, h3⟩
        exact ⟨_, rfl, h2, h3, .inl rfl⟩
      · obtain rfl : cap = n := by omega
        refine (insert_growC B g cap i gx xs us w h hB hlt hn h1 hu hgx hu1).mono ?_
        rintro e w' ⟨G, rfl, h2, h3⟩
        exact ⟨_, rfl, h2, ⟨h3.os, h3.tape, h3.output, h3.size, fun k hk _ => h3.block k hk (by simp)⟩, .inr rfl⟩
  · obtain rfl : i = n := by omega
    refine (insert_endC B gx i v xs us w h hB hn hu hgx hu1).mono ?_
    rintro e w' ⟨g', c', rfl, h2, h3, h4⟩
    exact ⟨_, rfl, by rw [putIn_endC h.1]; exact h2, h3, h4.elim (fun h => .inl h.symm) (fun h => .inr (by rw [h]; rfl))⟩

end Go.Proofs.Ytlblhpbhcaljhaa
