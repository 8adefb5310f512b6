/- slices.Reverse of a row of the call's own. -/
import Derived.Test.YtnfiohekdbjgoaaSccOfPure
import Derived.Test.YtnfiohekdbjgoaaShelf
import Derived.Sort.OwnSortedInts
namespace Go.Proofs.Ytnfiohekdbjgoaa.sc
open Go.ChangeShapes Go.WideShapes Go.ChangeAt Go.RowKit Go.Shelf Go.Sort

theorem grow_none (w : World) : Go.Sort.grow w #[] = w := by simp [Go.Sort.grow]
theorem oi_block {base : Nat} {w : World} {A : Option Addr} {m c : Nat} {l : List Int} (h : OI base w (.slice A m c) l) (hm : 0 < m) (hl : m = l.length) : ∃ g cur, A = some ⟨g, 0, none⟩ ∧ base ≤ g ∧ w.heap[g]? = some (.cells cur 3 (0, 0)) ∧ m ≤ c ∧ c ≤ maxLen ∧ cur.size = c * 1 ∧ cur.toList.take l.length = l.map (Value.int .i64) := by
  obtain ⟨h1, h2⟩ := h
  rcases h2 with ⟨e, h0⟩ | ⟨g, cap, cur, e, hb, hg, hn, hx, hs, ht⟩
  · omega
  · injection e with e1 e2 e3
    subst e1 e3
    exact ⟨g, cur, rfl, hb, hg, by omega, hx, hs, by rw [← ht]; simp⟩
theorem rev_own (base : Nat) (W : World) (A : Option Addr) (m c : Nat) (l : List Int) (hm : m = l.length) (hml : m ≤ 1000000) (hz : base ≤ W.heap.size) (h : OI base W (.slice A m c) l) :
    Calls Try.prog 66 #[.slice A m c] W fun e w' => (∃ r, e = .returned r) ∧ OI base w' (.slice A m c) l.reverse ∧ Below base W w' := by
  by_cases h0 : m = 0
  · subst h0
    obtain rfl : l = [] := List.eq_nil_of_length_eq_zero hm.symm
    refine (Try.slices_Reverse_int_empty A c W).mono ?_
    rintro e w' ⟨rfl, rfl⟩
    exact ⟨⟨_, rfl⟩, h, Below.refl _ _⟩
  · obtain ⟨g, cur, rfl, hb, hg, h1, h2, h3, h4⟩ := oi_block h (by omega) hm
    have hc := Try.slices_Reverse_int g 0 c l W (holds_of_blockI hg h4) (by omega)
    rw [← hm] at hc
    refine hc.mono ?_
    rintro e w' ⟨rfl, n, rfl⟩
    rw [← grow_none (putRow _ _ _ _ _)]
    have ho := ownsRow_sortedI (n := n) (os := #[]) (ss := l) (ts := l.reverse) (by simp) hb hg (by omega) h2 (by simpa using h3)
    have hgw := grownBy_sortedI (w := W) (g := g) (n := n) (os := #[]) l.reverse.toArray
    refine ⟨⟨_, rfl⟩, ?_, Below.grown (Below.refl _ _) hgw hz (fun k hk => by cases hk; exact hb)⟩
    unfold OI
    rw [List.length_reverse, hm]
    exact ho
end Go.Proofs.Ytnfiohekdbjgoaa.sc
