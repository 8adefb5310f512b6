/- The law's square, and what is told of it: plain facts; square itself. -/
import Derived.Test.YtjgifbcjokeigaaSorts
import Derived.Test.YtjgifbcjokeigaaTotal
import Derived.Test.YtjgifbcjokeigaaGraphMarks
namespace Go.Proofs.Ytjgifbcjokeigaa
open Go.ChangeShapes Go.WideShapes Go.ChangeAt Go.RowKit Go.Shelf

def squareG : Gr := ⟨[0], [[(2, 7), (1, 0)], [(3, 0)], [(3, 0)], []], [0, 0, 0, 0]⟩
theorem square_path : pathL squareG.rows [0] [false, false, false, true] = [0, 1, 3] := by
  have h : ([0] : List Int).mergeSort (fun x y => decide (x ≤ y)) = [0] := by simp
  unfold pathL pathTr
  rw [h]
  decide +kernel
theorem square_reach : marksL 4 (seen 4 squareG.rows [2]) = [false, false, true, true] := by decide +kernel
theorem square_chk : chk squareG = 0 := by decide +kernel
theorem none_chk : chk ⟨[0], [], []⟩ = 10 := by decide +kernel
theorem square_total : totG squareG = ⟨[0], [[(2, 7), (1, 0)], [(3, 0)], [(3, 0)], [(3, -1)]], [0, 0, 0, 0]⟩ := by
  unfold totG totR
  congr 1
theorem square_same : sameB squareG squareG = true := by decide +kernel
theorem square_other : sameB squareG (totG squareG) = false := by rw [square_total]; decide +kernel
theorem square_lead : (leadTo squareG.rows squareG.rows.length).length ≤ 1000000 := by decide +kernel

theorem la_lit {k : IntKind} {w : World} {b : Nat} {t : TypeId} {cs : Array Value} {l : List Int} (h : w.heap[b]? = some (.cells cs t (0, 0))) (hc : cs = (l.map (Value.int k)).toArray) : LA k w (some ⟨b, 0, none⟩) l := fun hn => by
  refine ⟨b, 0, rfl, (Array.getElem?_eq_some_iff.1 h).1, fun i hi => ?_⟩
  subst hc
  simp [World.cell?, h, List.getD, hi]
theorem pa_lit {w : World} {b : Nat} {t : TypeId} {cs : Array Value} {l : List (Int × Int)} (h : w.heap[b]? = some (.cells cs t (0, 0))) (hc : cs = (flat l).toArray) : PA w (some ⟨b, 0, none⟩) l := fun hn => by
  refine ⟨b, 0, rfl, (Array.getElem?_eq_some_iff.1 h).1, fun i hi => ?_⟩
  subst hc
  obtain ⟨e1, e2⟩ := flat_at l i hi
  simp [World.cell?, h, e1, e2]

theorem ah_new (w : World) (o : Obj) (n : Nat) (h : n = w.heap.size) : (w.alloc o).heap[n]? = some o := by subst h; exact World.alloc_heap_new w o
theorem ah_old {w : World} {o o' : Obj} {n : Nat} (h : n < w.heap.size) (h2 : w.heap[n]? = some o') : (w.alloc o).heap[n]? = some o' := (Below.heap_alloc _ _ _ h).trans h2

/-- What square hands back. -/
def SquareP (w : World) (e : Ending) (w' : World) : Prop := ∃ A1 c1 A2 c2 A3 c3, e = .returned (.agg #[.slice A1 1 c1, .slice A2 4 c2, .slice A3 4 c3]) ∧ GV w' (.agg #[.slice A1 1 c1, .slice A2 4 c2, .slice A3 4 c3]) squareG ∧ Below w.heap.size w w'
set_option maxRecDepth 20000 in
set_option maxHeartbeats 2000000 in
theorem square_any (w : World) : Calls Try.prog 45 #[] w (SquareP w) := by
  obtain ⟨i0, hi, hz0, hz1, hz2⟩ := info_parts (show (Try.prog.info? 63).map (fun i => (i.zero, i.size, i.bytes)) = some (some (.int .u64 0), 1, 8) by kernel_rfl)
  have hmk : ∀ W : World, (Instr.makeSlice 24 (.int .i64 4) (.int .i64 4)).run Try.prog W = .ok (.slice (some ⟨W.heap.size, 0, none⟩) 4 4) (W.alloc (.cells #[.int .u64 0, .int .u64 0, .int .u64 0, .int .u64 0] 63)) := fun W => by
    have hr := run_make (P := Try.prog) W 24 63 i0 _ (by kernel_rfl) hi hz0 .i64 .i64 4 4 (by omega) (Int.le_refl _) (by rw [hz2]; omega) (by omega)
    have e : madeCells (Value.int .u64 0).cells 4 = #[.int .u64 0, .int .u64 0, .int .u64 0, .int .u64 0] := by kernel_rfl
    rw [hr, hz1, show Int.toNat 4 * 1 = 4 from rfl, e]
    rfl
  clear hi hz0 hz1 hz2
  go_enter Try.func45, Try.ntmps45
  go_wp2
  clear hmk
  have g1 : ∀ (v0 v1 v2 : Value) (o2 o3 o4 o5 o6 : Obj), (((((((w.alloc (.cells #[v0, v1, v2] 26)).alloc (.cells #[.int .i64 0] 3)).alloc o2).alloc o3).alloc o4).alloc o5).alloc o6).heap[w.heap.size + 1]? = some (.cells #[.int .i64 0] 3 (0, 0)) := fun v0 v1 v2 o2 o3 o4 o5 o6 =>
    ah_old (by simp <;> omega) (ah_old (by simp <;> omega) (ah_old (by simp <;> omega) (ah_old (by simp <;> omega) (ah_old (by simp <;> omega) (ah_new _ _ _ (by simp))))))
  have g2 : ∀ (o0 o1 o2 o3 o4 o5 o6 : Obj), (((((((w.alloc o0).alloc o1).alloc o2).alloc o3).alloc o4).alloc o5).alloc o6).heap[w.heap.size + 1 + 1]? = some o2 := fun o0 o1 o2 o3 o4 o5 o6 =>
    ah_old (by simp <;> omega) (ah_old (by simp <;> omega) (ah_old (by simp <;> omega) (ah_old (by simp <;> omega) (ah_new _ _ _ (by simp)))))
  have g3 : ∀ (o0 o1 o2 o3 o4 o5 o6 : Obj), (((((((w.alloc o0).alloc o1).alloc o2).alloc o3).alloc o4).alloc o5).alloc o6).heap[w.heap.size + 1 + 1 + 1]? = some o3 := fun o0 o1 o2 o3 o4 o5 o6 =>
    ah_old (by simp <;> omega) (ah_old (by simp <;> omega) (ah_old (by simp <;> omega) (ah_new _ _ _ (by simp))))
  have g4 : ∀ (o0 o1 o2 o3 o4 o5 o6 : Obj), (((((((w.alloc o0).alloc o1).alloc o2).alloc o3).alloc o4).alloc o5).alloc o6).heap[w.heap.size + 1 + 1 + 1 + 1]? = some o4 := fun o0 o1 o2 o3 o4 o5 o6 =>
    ah_old (by simp <;> omega) (ah_old (by simp <;> omega) (ah_new _ _ _ (by simp)))
  have g5 : ∀ (o0 o1 o2 o3 o4 o5 o6 : Obj), (((((((w.alloc o0).alloc o1).alloc o2).alloc o3).alloc o4).alloc o5).alloc o6).heap[w.heap.size + 1 + 1 + 1 + 1 + 1]? = some o5 := fun o0 o1 o2 o3 o4 o5 o6 =>
    ah_old (by simp <;> omega) (ah_new _ _ _ (by simp))
  have g6 : ∀ (o0 o1 o2 o3 o4 o5 o6 : Obj), (((((((w.alloc o0).alloc o1).alloc o2).alloc o3).alloc o4).alloc o5).alloc o6).heap[w.heap.size + 1 + 1 + 1 + 1 + 1 + 1]? = some o6 := fun o0 o1 o2 o3 o4 o5 o6 =>
    ah_new _ _ _ (by simp)
  have hB : ∀ (o0 o1 o2 o3 o4 o5 o6 : Obj), Below w.heap.size w (((((((w.alloc o0).alloc o1).alloc o2).alloc o3).alloc o4).alloc o5).alloc o6) := fun o0 o1 o2 o3 o4 o5 o6 =>
    (((((((Below.refl _ _).alloc (by simp) _).alloc (by simp) _).alloc (by simp; omega) _).alloc (by simp; omega) _).alloc (by simp; omega) _).alloc (by simp; omega) _).alloc (by simp; omega) _
  have G1 := Lib.hid g1
  have G2 := Lib.hid g2
  have G3 := Lib.hid g3
  have G4 := Lib.hid g4
  have G5 := Lib.hid g5
  have G6 := Lib.hid g6
  have HB := Lib.hid hB
  clear g1 g2 g3 g4 g5 g6 hB
  refine bodyPost_ret (v := .agg #[.slice (some ⟨w.heap.size + 1, 0, none⟩) 1 1, .slice (some ⟨w.heap.size + 1 + 1 + 1 + 1 + 1, 0, none⟩) 4 4, .slice (some ⟨w.heap.size + 1 + 1 + 1 + 1 + 1 + 1, 0, none⟩) 4 4]) ?_ rfl ⟨_, 1, _, 4, _, 4, rfl, ⟨_, 1, _, 4, _, 4, rfl, ⟨Nat.le_refl _, by unfold maxLen; omega, la_lit (G1.out _ _ _ _ _ _ _ _) rfl⟩, ⟨Nat.le_refl _, by unfold maxLen; omega, ?_⟩, ⟨Nat.le_refl _, by unfold maxLen; omega, la_lit (G6.out _ _ _ _ _ _ _) rfl⟩⟩, HB.out _ _ _ _ _ _ _⟩
  · rw [results_cell rfl]; go_simp
  · refine fun _ => ⟨_, 0, rfl, (Array.getElem?_eq_some_iff.1 (G5.out _ _ _ _ _ _ _)).1, fun i hi => ?_⟩
    have hi : i < 4 := hi
    match i, hi with
    | 0, _ => exact ⟨some ⟨w.heap.size + 1 + 1, 0, none⟩, 2, by simp only [World.cell?, G5.out]; rfl, Nat.le_refl _, by unfold maxLen; omega, pa_lit (G2.out _ _ _ _ _ _ _) rfl⟩
    | 1, _ => exact ⟨some ⟨w.heap.size + 1 + 1 + 1, 0, none⟩, 1, by simp only [World.cell?, G5.out]; rfl, Nat.le_refl _, by unfold maxLen; omega, pa_lit (G3.out _ _ _ _ _ _ _) rfl⟩
    | 2, _ => exact ⟨some ⟨w.heap.size + 1 + 1 + 1 + 1, 0, none⟩, 1, by simp only [World.cell?, G5.out]; rfl, Nat.le_refl _, by unfold maxLen; omega, pa_lit (G4.out _ _ _ _ _ _ _) rfl⟩
    | 3, _ => exact ⟨none, 0, by simp only [World.cell?, G5.out]; rfl, Nat.le_refl _, by unfold maxLen; omega, fun h => absurd h (by decide)⟩
end Go.Proofs.Ytjgifbcjokeigaa
