/- Declarations, plain: the first of a list that may not be, and why. -/
import Derived.Test.YtodloljpfbkkjaaRRRRDeclSet
import Derived.Test.YtodloljpfbkkjaaRRRRDeclWrong
namespace Go.Proofs.YtodloljpfbkkjaaRRRR.dcl
open Go.ChangeShapes Go.WideShapes Go.ChangeAt Go.RowKit Go.Proofs.YtodloljpfbkkjaaRRRR.lx

/-- The place of the first that may not be, and why; of the names that were seen, and of what is left. -/
def declF {α : Type} (nm : α → ByteArray) (why : α → Int) (most : Int) : List ByteArray → List α → Int × Int
  | _, [] => (0, 0)
  | seen, x :: r => if most ≤ seen.length then (seen.length, 11) else if nameB (nm x) = false then (seen.length, 6) else if seenB seen (nm x) = true then (seen.length, 7) else
    if why x ≠ 0 then (seen.length, why x) else declF nm why most (seen ++ [nm x]) r
theorem drop_at {α : Type} (d : α) {l : List α} {k : Nat} (h : k < l.length) : l.drop k = l.getD k d :: l.drop (k + 1) := by
  rw [List.drop_eq_getElem_cons h]
  simp [List.getD, h]
theorem take_at {α : Type} (d : α) {l : List α} {k : Nat} (h : k < l.length) : l.take (k + 1) = l.take k ++ [l.getD k d] := by
  rw [List.take_add_one]
  simp [List.getD, h]
/-- The state of the walk at place k. -/
def declAt {α : Type} (nm : α → ByteArray) (why : α → Int) (most : Int) (l : List α) (k : Nat) : Int × Int := declF nm why most ((l.take k).map nm) (l.drop k)
theorem declAt_step {α : Type} (d : α) (nm : α → ByteArray) (why : α → Int) (most : Int) (l : List α) (k : Nat) (hk : k < l.length) : declAt nm why most l k =
    if most ≤ k then ((k : Int), 11) else if nameB (nm (l.getD k d)) = false then ((k : Int), 6) else if seenB ((l.take k).map nm) (nm (l.getD k d)) = true then ((k : Int), 7) else
    if why (l.getD k d) ≠ 0 then ((k : Int), why (l.getD k d)) else declAt nm why most l (k + 1) := by
  unfold declAt
  rw [drop_at d hk, take_at d hk, List.map_append]
  have hl : ((l.take k).map nm).length = k := by simp; omega
  conv => lhs; unfold declF
  rw [hl]
  rfl
theorem declAt_end {α : Type} (nm : α → ByteArray) (why : α → Int) (most : Int) (l : List α) (k : Nat) (hk : l.length ≤ k) : declAt nm why most l k = (0, 0) := by
  unfold declAt
  rw [List.drop_eq_nil_of_le hk]
  rfl
end Go.Proofs.YtodloljpfbkkjaaRRRR.dcl
