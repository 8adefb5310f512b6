/- The document's values of nodes: at, Truth, value, item, both. -/
import Derived.Test.YtjciamefkacchaaExprRefSpans
import Derived.Test.YtjciamefkacchaaExprEval
namespace Go.Proofs.Ytjciamefkacchaa
open Go.ChangeShapes Go.WideShapes Go.ChangeAt Go.RowKit

theorem at_any (A : Option Addr) (c m : Nat) (n : Int) (l : List Int) (w : World) (hm : m = l.length) (hA : IA w A l) :
    Calls Try.prog 103 #[.slice A m c, .int .i64 n] w fun e w' => e = .returned (.tuple #[.int .i64 (cellV l n).1, .bool (decide (0 ≤ n ∧ n < m))]) ∧ w = w' := by
  have HM := Lib.hid hm
  by_cases h : 0 ≤ n ∧ n < m
  · obtain ⟨k, rfl⟩ : ∃ k : Nat, n = k := ⟨n.toNat, by omega⟩
    obtain ⟨b, o, rfl, hb, hc⟩ := hA (by omega)
    have c1 := hc k (by omega)
    have HE : Hid ((cellV l k).1 = l.getD k 0) := Lib.hid (by unfold cellV; rw [if_pos (by rw [← HM.out]; exact h), Int.toNat_natCast])
    have HD : Hid (decide (0 ≤ (k : Int) ∧ (k : Int) < m) = true) := Lib.hid (decide_eq_true h)
    rw [HE.out, HD.out]
    generalize l.getD k 0 = x at *
    have hk : k < m := by omega
    clear h hc hA hm
    go_enter Try.func103, Try.ntmps103
    go_wp2
    go_ret2
    exact ⟨rfl, rfl⟩
  · have HE : Hid ((cellV l n).1 = 0) := Lib.hid (by unfold cellV; rw [if_neg (by rw [← HM.out]; exact h)])
    have HD : Hid (decide (0 ≤ n ∧ n < (m : Int)) = false) := Lib.hid (decide_eq_false h)
    rw [HE.out, HD.out]
    clear hm hA
    by_cases hn : n < 0
    · clear h
      go_enter Try.func103, Try.ntmps103
      go_wp2
      go_ret2
      exact ⟨rfl, rfl⟩
    · have h2 : (m : Int) ≤ n := by omega
      clear h
      go_enter Try.func103, Try.ntmps103
      go_wp2
      go_ret2
      exact ⟨rfl, rfl⟩
theorem truth_any (b : Bool) (w : World) : Calls Try.prog 104 #[.bool b] w fun e w' => e = .returned (.int .i64 (truthZ b)) ∧ w = w' := by
  cases b
  all_goals
    go_enter Try.func104, Try.ntmps104
    go_wp2
    go_ret
    exact ⟨rfl, rfl⟩

theorem pair_of {a b : Int} {r : Int × Int} (h : r = (a, b)) : Ending.returned (.tuple #[.int .i64 r.1, .int .i64 r.2]) = .returned (.tuple #[.int .i64 a, .int .i64 b]) := by rw [h]
theorem cellV_in {l : List Int} {n : Int} (h : 0 ≤ n ∧ n < l.length) : cellV l n = ((cellV l n).1, 0) := by unfold cellV; rw [if_pos h]
theorem cellV_out {l : List Int} {n : Int} (h : ¬ (0 ≤ n ∧ n < l.length)) : cellV l n = (0, 8) := by unfold cellV; rw [if_neg h]

set_option maxRecDepth 20000 in
set_option maxHeartbeats 4000000 in
theorem both_any (op l r : Int) (w : World) (h : 11 ≤ op ∧ op ≤ 19) : Calls Try.prog 50 #[.int .i64 op, .int .i64 l, .int .i64 r] w (PairP w (hadF ((valV op l r).getD 0) (valV op l r).isSome 10)) := by
  have hc : op = 11 ∨ op = 12 ∨ op = 13 ∨ op = 14 ∨ op = 15 ∨ op = 16 ∨ op = 17 ∨ op = 18 ∨ op = 19 := by omega
  clear h
  rcases hc with rfl | rfl | rfl | rfl | rfl | rfl | rfl | rfl | rfl
  · obtain ⟨q, HQ⟩ : ∃ q, Hid (numSums.told l r (l + r) = q) := ⟨_, Lib.hid rfl⟩
    have HV : Hid (valV 11 l r = q) := Lib.hid HQ.out
    rw [HV.out]
    cases q
    all_goals
      go_enter Try.func50, Try.ntmps50
      go_wp2_with fail
      refine (numSums.refAdd_any l r _).mono ?_
      rw [HQ.out]
      rintro e w' ⟨rfl, rfl⟩
      go_wp2
      go_ret2
      exact ⟨rfl, Below.refl _ _⟩
  · obtain ⟨q, HQ⟩ : ∃ q, Hid (numSums.told l r (l - r) = q) := ⟨_, Lib.hid rfl⟩
    have HV : Hid (valV 12 l r = q) := Lib.hid HQ.out
    rw [HV.out]
    cases q
    all_goals
      go_enter Try.func50, Try.ntmps50
      go_wp2_with fail
      refine (numSums.refSub_any l r _).mono ?_
      rw [HQ.out]
      rintro e w' ⟨rfl, rfl⟩
      go_wp2
      go_ret2
      exact ⟨rfl, Below.refl _ _⟩
  · obtain ⟨q, HQ⟩ : ∃ q, Hid (numSums.told l r (l * r) = q) := ⟨_, Lib.hid rfl⟩
    have HV : Hid (valV 13 l r = q) := Lib.hid HQ.out
    rw [HV.out]
    cases q
    all_goals
      go_enter Try.func50, Try.ntmps50
      go_wp2_with fail
      refine (numSums.refMul_any l r _).mono ?_
      rw [HQ.out]
      rintro e w' ⟨rfl, rfl⟩
      go_wp2
      go_ret2
      exact ⟨rfl, Below.refl _ _⟩
  · go_enter Try.func50, Try.ntmps50
    go_wp2_with fail
    refine (truth_any _ _).mono ?_
    rintro e w' ⟨rfl, rfl⟩
    go_wp2
    go_ret2
    exact ⟨rfl, Below.refl _ _⟩
  · go_enter Try.func50, Try.ntmps50
    go_wp2_with fail
    refine (truth_any _ _).mono ?_
    rintro e w' ⟨rfl, rfl⟩
    go_wp2
    go_ret2
    exact ⟨rfl, Below.refl _ _⟩
  · go_enter Try.func50, Try.ntmps50
    go_wp2_with fail
    refine (truth_any _ _).mono ?_
    rintro e w' ⟨rfl, rfl⟩
    go_wp2
    go_ret2
    exact ⟨rfl, Below.refl _ _⟩
  · go_enter Try.func50, Try.ntmps50
    go_wp2_with fail
    refine (truth_any _ _).mono ?_
    rintro e w' ⟨rfl, rfl⟩
    go_wp2
    go_ret2
    exact ⟨rfl, Below.refl _ _⟩
  · by_cases hl : l = 0
    · subst hl
      have HV : Hid (valV 18 0 r = some (truthZ false)) := Lib.hid rfl
      rw [HV.out]
      go_enter Try.func50, Try.ntmps50
      go_wp2_with fail
      refine (truth_any _ _).mono ?_
      rintro e w' ⟨rfl, rfl⟩
      go_wp2
      go_ret2
      exact ⟨rfl, Below.refl _ _⟩
    · have h2 : (l != 0) = true := by simpa using hl
      have HV : Hid (valV 18 l r = some (truthZ (r != 0))) := Lib.hid (by show some (truthZ (l != 0 && r != 0)) = _; rw [h2, Bool.true_and])
      rw [HV.out]
      go_enter Try.func50, Try.ntmps50
      go_wp2_with fail
      refine (truth_any _ _).mono ?_
      rintro e w' ⟨rfl, rfl⟩
      go_wp2
      go_ret2
      exact ⟨rfl, Below.refl _ _⟩
  · by_cases hl : l = 0
    · subst hl
      have HV : Hid (valV 19 0 r = some (truthZ (r != 0))) := Lib.hid (by show some (truthZ ((0 : Int) != 0 || r != 0)) = _; simp)
      rw [HV.out]
      go_enter Try.func50, Try.ntmps50
      go_wp2_with fail
      refine (truth_any _ _).mono ?_
      rintro e w' ⟨rfl, rfl⟩
      go_wp2
      go_ret2
      exact ⟨rfl, Below.refl _ _⟩
    · have h2 : (l != 0) = true := by simpa using hl
      have HV : Hid (valV 19 l r = some (truthZ true)) := Lib.hid (by show some (truthZ (l != 0 || r != 0)) = _; rw [h2, Bool.true_or])
      rw [HV.out]
      go_enter Try.func50, Try.ntmps50
      go_wp2_with fail
      refine (truth_any _ _).mono ?_
      rintro e w' ⟨rfl, rfl⟩
      go_wp2
      go_ret2
      exact ⟨rfl, Below.refl _ _⟩
end Go.Proofs.Ytjciamefkacchaa
