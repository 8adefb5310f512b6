/- The least node with the same start, and the same of ways. -/
import Derived.Test.YtnfiohekdbjgoaaSccLeasts
namespace Go.Proofs.Ytnfiohekdbjgoaa.sc
open Go.ChangeShapes Go.WideShapes Go.ChangeAt Go.RowKit

theorem lfd_is {n s : Nat} {st : Nat → Nat} : ∀ d, d ≤ n → (∃ k, n - d ≤ k ∧ k < n ∧ st k = s) → st (lfd n st d s) = s ∧ lfd n st d s < n ∧ n - d ≤ lfd n st d s ∧ ∀ k, n - d ≤ k → k < lfd n st d s → st k ≠ s
  | 0, _, ⟨k, h1, h2, _⟩ => by omega
  | d + 1, hd, ⟨k, h1, h2, h3⟩ => by
    unfold lfd
    by_cases e : st (n - (d + 1)) = s
    · rw [if_pos e]
      exact ⟨e, by omega, Nat.le_refl _, fun k h4 h5 => by omega⟩
    · rw [if_neg e]
      obtain ⟨g1, g2, g3, g4⟩ := lfd_is (st := st) (s := s) d (by omega) ⟨k, by
        rcases Nat.lt_or_ge k (n - d) with h | h
        · exact absurd (by rw [show n - (d + 1) = k by omega]; exact h3) e
        · exact h, h2, h3⟩
      refine ⟨g1, g2, by omega, fun j h4 h5 => ?_⟩
      rcases Nat.lt_or_ge j (n - d) with h | h
      · rw [show j = n - (d + 1) by omega]; exact e
      · exact g4 j h h5
/-- The least node that i reaches to and fro. -/
def Least (n : Nat) (e : Nat → Nat → Prop) (i m : Nat) : Prop := m ≤ i ∧ Wy e i m ∧ Wy e m i ∧ ∀ k, k < m → ¬ (Wy e i k ∧ Wy e k i)
theorem Least.one {n : Nat} {e : Nat → Nat → Prop} {i a b : Nat} (h : Least n e i a) (k : Least n e i b) : a = b := by
  rcases Nat.lt_trichotomy a b with h1 | h1 | h1
  · exact absurd ⟨h.2.1, h.2.2.1⟩ (k.2.2.2 a h1)
  · exact h1
  · exact absurd ⟨k.2.1, k.2.2.1⟩ (h.2.2.2 b h1)
theorem lfd_least {n : Nat} {e : Nat → Nat → Prop} {st : Nat → Nat} (ht : ∀ a b, a < n → b < n → (st a = st b ↔ Wy e a b ∧ Wy e b a)) {i : Nat} (hi : i < n) : Least n e i (lfd n st n (st i)) := by
  obtain ⟨h1, h2, _, h4⟩ := lfd_is (n := n) (s := st i) (st := st) n (Nat.le_refl _) ⟨i, by omega, hi, rfl⟩
  have h5 : lfd n st n (st i) ≤ i := by
    rcases Nat.lt_or_ge i (lfd n st n (st i)) with h | h
    · exact absurd rfl (h4 i (by omega) h)
    · exact h
  have h6 := (ht i _ hi h2).1 h1.symm
  exact ⟨h5, h6.1, h6.2, fun k hk hw => h4 k (by omega) hk ((ht i k hi (by omega)).2 hw).symm⟩
end Go.Proofs.Ytnfiohekdbjgoaa.sc
