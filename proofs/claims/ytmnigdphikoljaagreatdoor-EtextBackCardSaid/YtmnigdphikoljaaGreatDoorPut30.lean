/- Contracts that the claim stands on, several texts in one: EtRStr. -/
import Derived.Test.YtmnigdphikoljaaGreatDoorPut1
import Derived.Test.YtmnigdphikoljaaGreatDoorPut2
import Derived.Test.YtmnigdphikoljaaGreatDoorPut3
import Derived.Test.YtmnigdphikoljaaGreatDoorPut4
import Derived.Test.YtmnigdphikoljaaGreatDoorPut5
import Derived.Test.YtmnigdphikoljaaGreatDoorPut6
import Derived.Test.YtmnigdphikoljaaGreatDoorPut7
import Derived.Test.YtmnigdphikoljaaGreatDoorPut8
import Derived.Test.YtmnigdphikoljaaGreatDoorPut9
import Derived.Test.YtmnigdphikoljaaGreatDoorPut10
import Derived.Test.YtmnigdphikoljaaGreatDoorPut11
import Derived.Test.YtmnigdphikoljaaGreatDoorPut12
import Derived.Test.YtmnigdphikoljaaGreatDoorPut13
import Derived.Test.YtmnigdphikoljaaGreatDoorPut14
import Derived.Test.YtmnigdphikoljaaGreatDoorPut15
import Derived.Test.YtmnigdphikoljaaGreatDoorPut16
import Derived.Test.YtmnigdphikoljaaGreatDoorPut17
import Derived.Test.YtmnigdphikoljaaGreatDoorPut18
import Derived.Test.YtmnigdphikoljaaGreatDoorPut19
import Derived.Test.YtmnigdphikoljaaGreatDoorPut20
import Derived.Test.YtmnigdphikoljaaGreatDoorPut21
import Derived.Test.YtmnigdphikoljaaGreatDoorPut22
import Derived.Test.YtmnigdphikoljaaGreatDoorPut23
import Derived.Test.YtmnigdphikoljaaGreatDoorPut24
import Derived.Test.YtmnigdphikoljaaGreatDoorPut25
import Derived.Test.YtmnigdphikoljaaGreatDoorPut26
import Derived.Test.YtmnigdphikoljaaGreatDoorPut27
import Derived.Test.YtmnigdphikoljaaGreatDoorPut28
import Derived.Test.YtmnigdphikoljaaGreatDoorPut29
namespace Go.Proofs.YtmnigdphikoljaaGreatDoor.et
open Go.ChangeShapes Go.WideShapes Go.ChangeAt Go.RowKit Go.Deep

/-- How strongly an operation binds. -/
def stR (nd : Int × Int) : Int :=
  if nd.1 = 19 then 1 else if nd.1 = 18 then 2 else if nd.1 = 14 ∨ nd.1 = 15 ∨ nd.1 = 16 ∨ nd.1 = 17 then 3 else if nd.1 = 11 ∨ nd.1 = 12 then 4 else if nd.1 = 13 then 5
  else if nd.1 = 9 ∨ nd.1 = 10 then 6 else if nd.1 = 1 ∧ nd.2 < 0 then 6 else 7
def sgR (op : Int) : ByteArray := match pOf op with
  | none => ⟨#[42]⟩
  | some p => p.2.2.1
theorem pOf_none {op : Int} (h : ¬ (11 ≤ op ∧ op ≤ 19)) : pOf op = none := by
  unfold pOf
  rw [List.find?_eq_none]
  intro p hp
  have : 11 ≤ p.1 ∧ p.1 ≤ 19 := by
    revert p
    decide
  simp only [beq_iff_eq]
  omega
theorem nine {op : Int} (h : 11 ≤ op ∧ op ≤ 19) : op = 11 ∨ op = 12 ∨ op = 13 ∨ op = 14 ∨ op = 15 ∨ op = 16 ∨ op = 17 ∨ op = 18 ∨ op = 19 := by omega
theorem st_bnd {nd : Int × Int} {least : Nat} (h : least ≤ 6) (t : ByteArray) : (if stR nd < (least : Int) then brB t else t) = bndT nd least t := by
  obtain ⟨op, n⟩ := nd
  unfold bndT
  by_cases ho : 11 ≤ op ∧ op ≤ 19
  · rcases nine ho with rfl | rfl | rfl | rfl | rfl | rfl | rfl | rfl | rfl
    · show (if (4 : Int) < (least : Int) then brB t else t) = if 4 < least then brB t else t
      split <;> split <;> first | rfl | omega
    · show (if (4 : Int) < (least : Int) then brB t else t) = if 4 < least then brB t else t
      split <;> split <;> first | rfl | omega
    · show (if (5 : Int) < (least : Int) then brB t else t) = if 5 < least then brB t else t
      split <;> split <;> first | rfl | omega
    · show (if (3 : Int) < (least : Int) then brB t else t) = if 3 < least then brB t else t
      split <;> split <;> first | rfl | omega
    · show (if (3 : Int) < (least : Int) then brB t else t) = if 3 < least then brB t else t
      split <;> split <;> first | rfl | omega
    · show (if (3 : Int) < (least : Int) then brB t else t) = if 3 < least then brB t else t
      split <;> split <;> first | rfl | omega
    · show (if (3 : Int) < (least : Int) then brB t else t) = if 3 < least then brB t else t
      split <;> split <;> first | rfl | omega
    · show (if (2 : Int) < (least : Int) then brB t else t) = if 2 < least then brB t else t
      split <;> split <;> first | rfl | omega
    · show (if (1 : Int) < (least : Int) then brB t else t) = if 1 < least then brB t else t
      split <;> split <;> first | rfl | omega
  · rw [pOf_none ho]
    have h6 : 6 ≤ stR (op, n) := by
      unfold stR
      dsimp only
      rw [if_neg (by omega), if_neg (by omega), if_neg (by omega), if_neg (by omega), if_neg (by omega)]
      split
      · omega
      · split <;> omega
    exact if_neg (by omega)
theorem st_pair {op n : Int} {p : Int × Nat × ByteArray × Nat} (h : pOf op = some p) : stR (op, n) = (p.2.1 : Int) ∧ sgR op = p.2.2.1 ∧ p.2.1 ≤ 5 ∧ 1 ≤ p.2.1 ∧ p.2.2.1.size ≤ 2 := by
  by_cases ho : 11 ≤ op ∧ op ≤ 19
  · refine ⟨?_, by unfold sgR; rw [h], ?_⟩
    · rcases nine ho with rfl | rfl | rfl | rfl | rfl | rfl | rfl | rfl | rfl <;> (obtain rfl := Option.some.inj h; rfl)
    · rcases nine ho with rfl | rfl | rfl | rfl | rfl | rfl | rfl | rfl | rfl <;> (obtain rfl := Option.some.inj h; decide)
  · rw [pOf_none ho] at h
    cases h
set_option maxRecDepth 20000 in
set_option maxHeartbeats 4000000 in
theorem refStrength_any (nd : Int × Int) (w : World) : Calls Tryz.prog 59 #[.agg #[.int .i64 nd.1, .int .i64 nd.2]] w fun e w' => e = .returned (.int .i64 (stR nd)) ∧ Below w.heap.size w w' := by
  obtain ⟨op, n⟩ := nd
  by_cases ho : 9 ≤ op ∧ op ≤ 19
  · have hc : op = 9 ∨ op = 10 ∨ op = 11 ∨ op = 12 ∨ op = 13 ∨ op = 14 ∨ op = 15 ∨ op = 16 ∨ op = 17 ∨ op = 18 ∨ op = 19 := by omega
    rcases hc with rfl | rfl | rfl | rfl | rfl | rfl | rfl | rfl | rfl | rfl | rfl
    all_goals
      clear ho
      go_enter Tryz.func59, Tryz.ntmps59
      go_wp2
      go_ret
      exact ⟨rfl, below_alloc1 _ _⟩
  · have HE : Hid (stR (op, n) = if op = 1 ∧ n < 0 then 6 else 7) := Lib.hid (by
      unfold stR
      dsimp only
      rw [if_neg (by omega), if_neg (by omega), if_neg (by omega), if_neg (by omega), if_neg (by omega), if_neg (by omega)])
    have g9 : ¬ op = 9 := by omega
    have g10 : ¬ op = 10 := by omega
    have g11 : ¬ op = 11 := by omega
    have g12 : ¬ op = 12 := by omega
    have g13 : ¬ op = 13 := by omega
    have g14 : ¬ op = 14 := by omega
    have g15 : ¬ op = 15 := by omega
    have g16 : ¬ op = 16 := by omega
    have g17 : ¬ op = 17 := by omega
    have g18 : ¬ op = 18 := by omega
    have g19 : ¬ op = 19 := by omega
    clear ho
    by_cases h1 : op = 1
    · subst h1
      by_cases hn : n < 0
      · have HF : Hid (stR (1, n) = 6) := Lib.hid (HE.out.trans (if_pos ⟨rfl, hn⟩))
        clear HE
        go_enter Tryz.func59, Tryz.ntmps59
        go_wp2
        go_ret
        exact ⟨by rw [HF.out]; rfl, below_alloc1 _ _⟩
      · have HF : Hid (stR (1, n) = 7) := Lib.hid (HE.out.trans (if_neg (fun h => hn h.2)))
        have hn2 : 0 ≤ n := by omega
        clear HE hn
        go_enter Tryz.func59, Tryz.ntmps59
        go_wp2
        go_ret
        exact ⟨by rw [HF.out]; rfl, below_alloc1 _ _⟩
    · have HF : Hid (stR (op, n) = 7) := Lib.hid (HE.out.trans (if_neg (fun h => h1 h.1)))
      clear HE
      go_enter Tryz.func59, Tryz.ntmps59
      go_wp2
      go_ret
      exact ⟨by rw [HF.out]; rfl, below_alloc1 _ _⟩
set_option maxRecDepth 20000 in
set_option maxHeartbeats 4000000 in
theorem refSign_any (op : Int) (w : World) : Calls Tryz.prog 60 #[.int .i64 op] w fun e w' => e = .returned (.string (sgR op)) ∧ Below w.heap.size w w' := by
  by_cases ho : 11 ≤ op ∧ op ≤ 19
  · rcases nine ho with rfl | rfl | rfl | rfl | rfl | rfl | rfl | rfl | rfl
    all_goals
      clear ho
      go_enter Tryz.func60, Tryz.ntmps60
      go_wp2
      go_ret
      exact ⟨rfl, Below.refl _ _⟩
  · have HE : Hid (sgR op = ⟨#[42]⟩) := Lib.hid (by unfold sgR; rw [pOf_none ho])
    have g11 : ¬ op = 11 := by omega
    have g12 : ¬ op = 12 := by omega
    have g14 : ¬ op = 14 := by omega
    have g15 : ¬ op = 15 := by omega
    have g16 : ¬ op = 16 := by omega
    have g17 : ¬ op = 17 := by omega
    have g18 : ¬ op = 18 := by omega
    have g19 : ¬ op = 19 := by omega
    clear ho
    go_enter Tryz.func60, Tryz.ntmps60
    go_wp2
    go_ret
    exact ⟨by rw [HE.out]; rfl, Below.refl _ _⟩
set_option maxRecDepth 20000 in
set_option maxHeartbeats 4000000 in
theorem refAround_any (t : ByteArray) (b : Bool) (w : World) (h : t.size ≤ 2000000000) : Calls Tryz.prog 58 #[.string t, .bool b] w fun e w' => e = .returned (.string (if b then brB t else t)) ∧ Below w.heap.size w w' := by
  cases b with
  | true =>
    obtain ⟨z1, h1⟩ : ∃ z, (⟨#[40]⟩ : ByteArray) ++ t = z := ⟨_, rfl⟩
    obtain ⟨z2, h2⟩ : ∃ z, z1 ++ (⟨#[41]⟩ : ByteArray) = z := ⟨_, rfl⟩
    have s1 : z1.size = 1 + t.size := by rw [← h1, size_app]; rfl
    have HE : Hid (brB t = z2) := Lib.hid (by rw [← h2, ← h1]; rfl)
    rw [if_pos rfl]
    have e1 := fun W => str_add (P := Tryz.prog) h1 (by show 1 + _ ≤ _; omega) W
    have e2 := fun W => str_add (P := Tryz.prog) h2 (by show _ + 1 ≤ _; omega) W
    clear h1 h2 s1 h
    go_enter Tryz.func58, Tryz.ntmps58
    go_wp2
    go_ret
    exact ⟨by rw [HE.out]; rfl, Below.refl _ _⟩
  | false =>
    clear h
    go_enter Tryz.func58, Tryz.ntmps58
    go_wp2
    go_ret
    exact ⟨rfl, Below.refl _ _⟩
end Go.Proofs.YtmnigdphikoljaaGreatDoor.et
