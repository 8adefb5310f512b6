/- What is made total stays, made total again. -/
import Derived.Test.YtjgifbcjokeigaaRefTotal
namespace Go.Proofs.Ytjgifbcjokeigaa
open Go.ChangeShapes Go.WideShapes Go.ChangeAt Go.RowKit Go.Shelf

theorem filt_self {n : Nat} {l : List (Int × Int)} (h : ∀ e ∈ l, nodeB n e.1 = true) : filt n l = l := by
  unfold filt
  rw [List.filter_eq_self]
  exact h
theorem totL_nodes {rows : List (List (Int × Int))} {j : Nat} (h : j < rows.length) : ∀ e ∈ totL rows rows.length j, nodeB rows.length e.1 = true := by
  intro e he
  rw [totL_filt h] at he
  split at he
  · simp at he
    subst he
    exact decide_eq_true ⟨Int.natCast_nonneg _, by show (j : Int) < (rows.length : Int); omega⟩
  · exact (List.mem_filter.1 he).2
theorem totL_ne {rows : List (List (Int × Int))} {j : Nat} (h : j < rows.length) : totL rows rows.length j ≠ [] := by
  rw [totL_filt h]
  split
  · simp
  · assumption
theorem totR_row {rows : List (List (Int × Int))} {j : Nat} (h : j < rows.length) : (totR rows).getD j [] = totL rows rows.length j := by
  simp [totR, List.getD, h]
theorem totR_totR (rows : List (List (Int × Int))) : totR (totR rows) = totR rows := by
  have e : totR (totR rows) = (List.range rows.length).map (totL (totR rows) (totR rows).length) := by
    conv => lhs; unfold totR
    rw [show (List.map (totL rows rows.length) (List.range rows.length)).length = rows.length by simp]
    rw [totR_len]
    rfl
  rw [e]
  conv => rhs; unfold totR
  refine List.map_congr_left (fun j hj => ?_)
  have hj := List.mem_range.1 hj
  rw [totL_filt (by rw [totR_len]; exact hj), totR_row hj, totR_len, filt_self (totL_nodes hj), if_neg (totL_ne hj)]
theorem totL_len {rows : List (List (Int × Int))} {M : Nat} (hM : 1 ≤ M) (h : ∀ i, (rows.getD i []).length ≤ M) (i : Nat) : ((totR rows).getD i []).length ≤ M := by
  by_cases hi : i < rows.length
  · rw [totR_row hi, totL_filt hi]
    split
    · exact hM
    · exact Nat.le_trans (List.length_filter_le _ _) (h i)
  · have e : (totR rows).getD i [] = [] := by simp [List.getD, List.getElem?_eq_none (show (totR rows).length ≤ i by rw [totR_len]; omega)]
    rw [e]; simp
theorem same_self (G : Gr) : sameB G G = true := by unfold sameB; simp [eqB, eqR]
end Go.Proofs.Ytjgifbcjokeigaa
