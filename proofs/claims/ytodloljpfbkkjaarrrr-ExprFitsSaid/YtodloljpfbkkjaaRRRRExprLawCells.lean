/- The law ExprFits' own cells. -/
import Derived.Test.YtodloljpfbkkjaaRRRRExprPut
import Derived.IntWalk
namespace Go.Proofs.YtodloljpfbkkjaaRRRR
open Go.ChangeShapes Go.WideShapes Go.ChangeAt Go.RowKit

/-- How many cells a variable has, the greatest number in one of them (0: any), and whether it may be. -/
def cellsL (sizes : List Int) (x y : Int) : Int × Int × Bool :=
  if x < 0 ∨ (sizes.length : Int) < x ∨ y < 0 ∨ (sizes.length : Int) < y then (0, 0, false) else
  (if 0 < y then sizes.getD (y - 1).toNat 0 else 1, if 0 < x then sizes.getD (x - 1).toNat 0 else 0, decide (1 ≤ (if 0 < y then sizes.getD (y - 1).toNat 0 else 1) ∧ (if 0 < y then sizes.getD (y - 1).toNat 0 else 1) ≤ 50))
def CellsP (w : World) (r : Int × Int × Bool) (e : Ending) (w' : World) : Prop := e = .returned (.tuple #[.int .i64 r.1, .int .i64 r.2.1, .bool r.2.2]) ∧ Below w.heap.size w w'
theorem cellsP_of {w w' : World} {a b : Int} {c d : Bool} {r : Int × Int × Bool} (h : r = (a, b, c)) (hcd : c = d) (hb : Below w.heap.size w w') : CellsP w r (.returned (.tuple #[.int .i64 a, .int .i64 b, .bool d])) w' := by
  subst h hcd
  exact ⟨rfl, hb⟩
theorem belowC2 (w : World) (a b : Obj) : Below w.heap.size w ((w.alloc a).alloc b) := bthen (below_alloc1 _ _) (below_alloc1 _ _)

set_option maxRecDepth 20000 in
set_option maxHeartbeats 4000000 in
theorem lawCells_out (X : ScX) (sizes : List Int) (s : ByteArray) (x y p q r : Int) (w : World) (hn1 : X.n1 ≤ 1000000000000000) (h1 : X.n1 = sizes.length) (hout : x < 0 ∨ (X.n1 : Int) < x ∨ y < 0 ∨ (X.n1 : Int) < y) :
    Calls Try.prog 17 #[.agg #[.string s, .int .i64 x, .int .i64 y, .int .i64 p, .int .i64 q, .int .i64 r], X.v] w (CellsP w (cellsL sizes x y)) := by
  have HE : Hid (cellsL sizes x y = (0, 0, false)) := Lib.hid (if_pos (by rw [← h1]; exact hout))
  rw [HE.out]
  clear h1
  by_cases a1 : x < 0
  · clear hout
    unfold ScX.v
    go_enter Try.func17, Try.ntmps17
    go_wp2
    exact bodyPost_ret (results_tmp3 rfl _ _ _) rfl (cellsP_of rfl rfl (belowC2 _ _ _))
  · by_cases a2 : (X.n1 : Int) < x
    · clear hout
      unfold ScX.v
      go_enter Try.func17, Try.ntmps17
      go_wp2
      exact bodyPost_ret (results_tmp3 rfl _ _ _) rfl (cellsP_of rfl rfl (belowC2 _ _ _))
    · by_cases a3 : y < 0
      · clear hout
        unfold ScX.v
        go_enter Try.func17, Try.ntmps17
        go_wp2
        exact bodyPost_ret (results_tmp3 rfl _ _ _) rfl (cellsP_of rfl rfl (belowC2 _ _ _))
      · have a4 : (X.n1 : Int) < y := by omega
        clear hout
        unfold ScX.v
        go_enter Try.func17, Try.ntmps17
        go_wp2
        exact bodyPost_ret (results_tmp3 rfl _ _ _) rfl (cellsP_of rfl rfl (belowC2 _ _ _))
set_option maxRecDepth 20000 in
set_option maxHeartbeats 4000000 in
theorem lawCells_in (X : ScX) (sizes : List Int) (s : ByteArray) (x y p q r : Int) (w : World) (hn1 : X.n1 ≤ 1000000000000000) (h1 : X.n1 = sizes.length) (hA : SA w X.a1 sizes) (hx : 0 ≤ x ∧ x ≤ X.n1) (hy : 0 ≤ y ∧ y ≤ X.n1) :
    Calls Try.prog 17 #[.agg #[.string s, .int .i64 x, .int .i64 y, .int .i64 p, .int .i64 q, .int .i64 r], X.v] w (CellsP w (cellsL sizes x y)) := by
  have HE : Hid (cellsL sizes x y = (if 0 < y then sizes.getD (y - 1).toNat 0 else 1, if 0 < x then sizes.getD (x - 1).toNat 0 else 0, decide (1 ≤ (if 0 < y then sizes.getD (y - 1).toNat 0 else 1) ∧ (if 0 < y then sizes.getD (y - 1).toNat 0 else 1) ≤ 50))) := Lib.hid (if_neg (by rw [← h1]; omega))
  rw [HE.out]
  have HM := Lib.hid h1
  have HSA := Lib.hid hA
  clear h1 hA HE
  by_cases y0 : y = 0
  · subst y0
    rw [if_neg (by decide), show decide ((1 : Int) ≤ 1 ∧ (1 : Int) ≤ 50) = true from rfl]
    by_cases x0 : x = 0
    · subst x0
      rw [if_neg (by decide)]
      clear hx hy
      unfold ScX.v
      go_enter Try.func17, Try.ntmps17
      go_wp2
      exact bodyPost_ret (results_tmp3 rfl _ _ _) rfl (cellsP_of rfl rfl (belowC2 _ _ _))
    · obtain ⟨j, rfl⟩ : ∃ j : Nat, x = (j : Int) + 1 := ⟨(x - 1).toNat, by omega⟩
      obtain ⟨b, o, ha, hb, hc⟩ := HSA.out (by rw [← HM.out]; omega)
      obtain ⟨s1, c0, c1⟩ := hc j (by rw [← HM.out]; omega)
      rw [if_pos (by omega), show ((j : Int) + 1 - 1).toNat = j by omega]
      generalize sizes.getD j 0 = zx at *
      have q1 : IntKind.i64.wrap ((j : Int) + 1 - 1) = (j : Int) := (IntWalk.i64_in _ (by omega)).trans (by omega)
      have hj : j < X.n1 := by omega
      have hj2 : ¬ (X.n1 : Int) < (j : Int) + 1 := by omega
      have HA := Lib.hid ha
      clear hx hy hc c0 ha x0
      unfold ScX.v
      go_enter Try.func17, Try.ntmps17
      rw [HA.out] at *
      go_wp2
      exact bodyPost_ret (results_tmp3 rfl _ _ _) rfl (cellsP_of rfl rfl (belowC2 _ _ _))
  · obtain ⟨k, rfl⟩ : ∃ k : Nat, y = (k : Int) + 1 := ⟨(y - 1).toNat, by omega⟩
    obtain ⟨b, o, ha, hb, hc⟩ := HSA.out (by rw [← HM.out]; omega)
    obtain ⟨s2, d0, d1⟩ := hc k (by rw [← HM.out]; omega)
    rw [if_pos (by omega), show ((k : Int) + 1 - 1).toNat = k by omega]
    have q2 : IntKind.i64.wrap ((k : Int) + 1 - 1) = (k : Int) := (IntWalk.i64_in _ (by omega)).trans (by omega)
    have hk : k < X.n1 := by omega
    have hk2 : ¬ (X.n1 : Int) < (k : Int) + 1 := by omega
    have HA := Lib.hid ha
    by_cases x0 : x = 0
    · subst x0
      rw [if_neg (by decide)]
      generalize sizes.getD k 0 = zy at *
      clear hx hy hc d0 ha y0
      by_cases g1 : 1 ≤ zy
      · by_cases g2 : zy ≤ 50
        · rw [show decide (1 ≤ zy ∧ zy ≤ 50) = true from decide_eq_true ⟨g1, g2⟩]
          unfold ScX.v
          go_enter Try.func17, Try.ntmps17
          rw [HA.out] at *
          go_wp2
          exact bodyPost_ret (results_tmp3 rfl _ _ _) rfl (cellsP_of rfl rfl (belowC2 _ _ _))
        · rw [show decide (1 ≤ zy ∧ zy ≤ 50) = false from decide_eq_false (fun h => g2 h.2)]
          unfold ScX.v
          go_enter Try.func17, Try.ntmps17
          rw [HA.out] at *
          go_wp2
          exact bodyPost_ret (results_tmp3 rfl _ _ _) rfl (cellsP_of rfl rfl (belowC2 _ _ _))
      · rw [show decide (1 ≤ zy ∧ zy ≤ 50) = false from decide_eq_false (fun h => g1 h.1)]
        unfold ScX.v
        go_enter Try.func17, Try.ntmps17
        rw [HA.out] at *
        go_wp2
        exact bodyPost_ret (results_tmp3 rfl _ _ _) rfl (cellsP_of rfl rfl (belowC2 _ _ _))
    · obtain ⟨j, rfl⟩ : ∃ j : Nat, x = (j : Int) + 1 := ⟨(x - 1).toNat, by omega⟩
      obtain ⟨s1, c0, c1⟩ := hc j (by rw [← HM.out]; omega)
      rw [if_pos (by omega), show ((j : Int) + 1 - 1).toNat = j by omega]
      have q1 : IntKind.i64.wrap ((j : Int) + 1 - 1) = (j : Int) := (IntWalk.i64_in _ (by omega)).trans (by omega)
      have hj : j < X.n1 := by omega
      have hj2 : ¬ (X.n1 : Int) < (j : Int) + 1 := by omega
      obtain ⟨zx, HZX⟩ : ∃ z, Hid (sizes.getD j 0 = z) := ⟨_, Lib.hid rfl⟩
      obtain ⟨zy, HZY⟩ : ∃ z, Hid (sizes.getD k 0 = z) := ⟨_, Lib.hid rfl⟩
      rw [HZX.out] at c1 ⊢
      rw [HZY.out] at d1 ⊢
      clear hx hy hc d0 c0 ha y0 x0
      by_cases g1 : 1 ≤ zy
      · by_cases g2 : zy ≤ 50
        · rw [show decide (1 ≤ zy ∧ zy ≤ 50) = true from decide_eq_true ⟨g1, g2⟩]
          unfold ScX.v
          go_enter Try.func17, Try.ntmps17
          rw [HA.out] at *
          go_wp2
          exact bodyPost_ret (results_tmp3 rfl _ _ _) rfl (cellsP_of rfl rfl (belowC2 _ _ _))
        · rw [show decide (1 ≤ zy ∧ zy ≤ 50) = false from decide_eq_false (fun h => g2 h.2)]
          unfold ScX.v
          go_enter Try.func17, Try.ntmps17
          rw [HA.out] at *
          go_wp2
          exact bodyPost_ret (results_tmp3 rfl _ _ _) rfl (cellsP_of rfl rfl (belowC2 _ _ _))
      · rw [show decide (1 ≤ zy ∧ zy ≤ 50) = false from decide_eq_false (fun h => g1 h.1)]
        unfold ScX.v
        go_enter Try.func17, Try.ntmps17
        rw [HA.out] at *
        go_wp2
        exact bodyPost_ret (results_tmp3 rfl _ _ _) rfl (cellsP_of rfl rfl (belowC2 _ _ _))
end Go.Proofs.YtodloljpfbkkjaaRRRR
