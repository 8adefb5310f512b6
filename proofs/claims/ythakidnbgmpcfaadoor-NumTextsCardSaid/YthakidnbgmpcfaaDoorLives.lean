/- 'lives': it returns true. -/
import Derived.Test.YthakidnbgmpcfaaDoorRank
import Derived.Test.YthakidnbgmpcfaaDoorRefUnrank
namespace Go.Proofs.YthakidnbgmpcfaaDoor
open Go.ChangeShapes Go.WideShapes Go.ChangeAt Go.RowKit

theorem ia_two (w : World) (a b : Int) (t : TypeId) : IA (w.alloc (.cells #[.int .i64 a, .int .i64 b] t)) (some ⟨w.heap.size, 0, none⟩) [a, b] := ia_lit w [a, b] _ t rfl
theorem ia_two' (w : World) (a b : Int) (t : TypeId) (n : Nat) (hn : n = w.heap.size) : IA (w.alloc (.cells #[.int .i64 a, .int .i64 b] t)) (some ⟨n, 0, none⟩) [a, b] := by subst hn; exact ia_two w a b t
theorem w64_small (a b : Int) (h : (-100 ≤ a ∧ a ≤ 100) ∧ -100 ≤ b ∧ b ≤ 100) : W64 [a, b] := fun z hz => by
  simp at hz
  rcases hz with rfl | rfl <;> omega

theorem lives_rank : rankF [1, 2] [3, 4] = some 6 := by decide
theorem lives_unrank : unrankF 6 [3, 4] = some [1, 2] := by decide
theorem lives_mod1 : modF (-7) 3 = 2 := by decide
theorem lives_mod2 : modF (-7) (-3) = 2 := by decide

theorem rank_lives (W : World) (A B : Option Addr) (hA : IA W A [1, 2]) (hB : IA W B [3, 4]) :
    Calls Tryd.prog 9 #[.slice A 2 2, .slice B 2 2] W fun e w' => e = .returned (.tuple #[.int .i64 6, .bool true]) ∧ W = w' := by
  have h := rank_any A B 2 2 [1, 2] [3, 4] W hA hB (w64_small _ _ (by omega)) (w64_small _ _ (by omega)) (by unfold maxLen; simp) (by unfold maxLen; simp)
  rw [lives_rank] at h
  exact h

def LivesSlice (W : World) (e : Ending) (w' : World) : Prop := Below W.heap.size W w' ∧ ∃ g, e = .returned (.tuple #[.slice (some ⟨g, 0, none⟩) 2 2, .bool true]) ∧ IA w' (some ⟨g, 0, none⟩) [1, 2]
theorem unrank_lives (W : World) (B : Option Addr) (hB : IA W B [3, 4]) :
    Calls Tryd.prog 10 #[.int .i64 6, .slice B 2 2] W (LivesSlice W) := by
  refine (unrank_any 6 B 2 [3, 4] W hB (w64_small _ _ (by omega)) (by simp) (by omega) (by omega)).mono ?_
  rintro e w' ⟨hb, h⟩
  rw [lives_unrank] at h
  exact ⟨hb, h⟩
theorem same_lives (W : World) (A B : Option Addr) (hA : IA W A [1, 2]) (hB : IA W B [1, 2]) :
    Calls Tryd.prog 11 #[.slice A 2 2, .slice B 2 2] W fun e w' => e = .returned (.bool true) ∧ ∃ n, w' = W.drewN n := by
  have h := same_any A B 2 2 2 2 [1, 2] [1, 2] W rfl rfl hA hB (by unfold maxLen; simp) (by unfold maxLen; simp)
  exact h
theorem mod_lives (b : Int) (W : World) (h1 : b = 3 ∨ b = -3) : Calls Tryd.prog 12 #[.int .i64 (-7), .int .i64 b] W fun e w' => e = .returned (.int .i64 2) ∧ W = w' := by
  have h := mod_any (-7) b W (by omega) (by omega) (by omega) (by omega)
  rcases h1 with rfl | rfl
  · rw [lives_mod1] at h; exact h
  · rw [lives_mod2] at h; exact h

theorem lives_any (w : World) : Calls Tryd.prog 4 #[] w fun e w' => e = .returned (.bool true) ∧ Below w.heap.size w w' := by
  go_enter Tryd.func4, Tryd.ntmps4
  go_wp2_with (fail)
  refine (rank_lives _ _ _ ((ia_two' _ _ _ _ _ rfl).alloc _) (ia_two' _ _ _ _ _ (by simp))).mono ?_
  rintro e w' ⟨rfl, rfl⟩
  go_wp2_with (fail)
  refine (unrank_lives _ _ (ia_two' _ _ _ _ _ (by simp))).mono ?_
  rintro e w2 ⟨hb2, g, rfl, hI2⟩
  have hbw : Below w.heap.size w w2 := ((((Below.refl _ _).alloc (Nat.le_refl _) _).alloc (by simp) _).alloc (by simp; omega) _).trans (hb2.mono (by simp; omega))
  clear hb2
  have hz := hbw.size
  go_wp2_with (fail)
  refine (same_lives _ _ _ (hI2.alloc _) (ia_two' _ _ _ _ _ rfl)).mono ?_
  rintro e w3 ⟨rfl, n3, rfl⟩
  go_wp2_with (go_at_call 12; refine (mod_lives _ _ (by omega)).mono ?_; rintro e w' ⟨rfl, rfl⟩)
  go_ret
  exact ⟨rfl, below_drewN (hbw.alloc hz _) _⟩
end Go.Proofs.YthakidnbgmpcfaaDoor
