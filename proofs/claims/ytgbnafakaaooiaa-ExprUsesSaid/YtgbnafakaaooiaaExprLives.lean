/- The laws' own example lives: what it tells is true. -/
import Derived.Test.YtgbnafakaaooiaaExprEval
namespace Go.Proofs.Ytgbnafakaaooiaa
open Go.ChangeShapes Go.WideShapes Go.ChangeAt Go.RowKit

/-- The scope and the environment of nothing. -/
def noSc : Sc := ⟨[], [], [], [], [], 0⟩
def noScX : ScX := ⟨none, none, none, none, none, 0, 0, 0, 0, 0, 0, 0, 0, 0, 0, 0⟩
def noEv : Ev := ⟨[], [], [], [], 0⟩
def noEvX : EvX := ⟨none, none, none, none, 0, 0, 0, 0, 0, 0, 0, 0, 0⟩
theorem no_sr (w : World) : SR w noScX noSc := ⟨rfl, rfl, rfl, rfl, rfl, rfl, by decide, fun h => absurd h (by decide), fun h => absurd h (by decide), fun h => absurd h (by decide), fun h => absurd h (by decide), fun h => absurd h (by decide)⟩
theorem no_er (w : World) : ER w noEvX noEv := ⟨rfl, rfl, rfl, rfl, rfl, fun h => absurd h (by decide), fun h => absurd h (by decide), fun h => absurd h (by decide), fun h => absurd h (by decide)⟩
def live1 : List (Int × Int) := [(1, 2), (1, 3), (11, 0), (1, 5), (14, 0)]
def live2 : List (Int × Int) := [(1, 1), (9, 0)]
theorem live_k : kindF noSc live1 = (1, 0) := by decide +kernel
theorem live_v : evalF noEv live1 = (1, 0) := by decide +kernel
theorem live_c : kindF noSc live2 = (0, 9) := by decide +kernel
theorem live1_n : N64 live1 := by intro z hz; simp [live1] at hz; rcases hz with rfl | rfl | rfl | rfl | rfl <;> decide
theorem live2_n : N64 live2 := by intro z hz; simp [live2] at hz; rcases hz with rfl | rfl <;> decide
theorem pa_live1 (w : World) : PA (w.alloc (.cells #[.int .i64 1, .int .i64 2, .int .i64 1, .int .i64 3, .int .i64 11, .int .i64 0, .int .i64 1, .int .i64 5, .int .i64 14, .int .i64 0] 28)) (some ⟨w.heap.size, 0, none⟩) live1 := fun _ => by
  refine ⟨_, 0, rfl, by simp, fun i hi => ?_⟩
  have hi : i < 5 := hi
  rcases i with _|_|_|_|_|i
  all_goals first
    | exact ⟨World.cell?_alloc_at _ _ _ _ rfl, World.cell?_alloc_at _ _ _ _ rfl⟩
    | omega
theorem pa_live2 (w : World) : PA (w.alloc (.cells #[.int .i64 1, .int .i64 1, .int .i64 9, .int .i64 0] 28)) (some ⟨w.heap.size, 0, none⟩) live2 := fun _ => by
  refine ⟨_, 0, rfl, by simp, fun i hi => ?_⟩
  have hi : i < 2 := hi
  rcases i with _|_|i
  all_goals first
    | exact ⟨World.cell?_alloc_at _ _ _ _ rfl, World.cell?_alloc_at _ _ _ _ rfl⟩
    | omega

theorem lives_any (w : World) : Calls Try.prog 4 #[] w (LawPost w) := by
  go_enter Try.func4, Try.ntmps4
  go_wp2_with fail
  refine (kind_any noScX noSc live1 _ 5 5 _ (no_sr _) rfl (pa_live1 _) live1_n).mono ?_
  rw [live_k]
  rintro e w1 ⟨rfl, hb1⟩
  have HP1 := Lib.hid ((pa_live1 w).below hb1)
  have HB1 := Lib.hid (bthen (below_alloc1 w _) hb1)
  clear hb1
  go_wp2_with fail
  refine (eval_any noEvX noEv live1 _ 5 5 _ (no_er _) rfl HP1.out live1_n).mono ?_
  rw [live_v]
  rintro e w2 ⟨rfl, hb2⟩
  have HB2 := Lib.hid (bthen HB1.out hb2)
  clear hb2
  go_wp2_with fail
  refine (kind_any noScX noSc live2 _ 2 2 _ (no_sr _) rfl (pa_live2 _) live2_n).mono ?_
  rw [live_c]
  rintro e w3 ⟨rfl, hb3⟩
  have HB3 := Lib.hid (bthen HB2.out (bthen (below_alloc1 _ _) hb3))
  clear hb3
  go_wp2
  go_ret
  exact ⟨rfl, HB3.out⟩
end Go.Proofs.Ytgbnafakaaooiaa
