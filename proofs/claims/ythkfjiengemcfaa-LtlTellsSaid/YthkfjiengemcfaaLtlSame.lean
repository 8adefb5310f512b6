/- slices.Equal at nodes. -/
import Derived.Test.YthkfjiengemcfaaLtlLeft
import Derived.Deep.QuietTactic
namespace Go.Proofs.Ythkfjiengemcfaa.lt
open Go.ChangeShapes Go.WideShapes Go.ChangeAt Go.RowKit

theorem getP_ext {xs ys : List (Int × Int)} (hl : xs.length = ys.length) (h : ∀ i, i < xs.length → xs.getD i (0, 0) = ys.getD i (0, 0)) : xs = ys := by
  apply List.ext_getElem hl
  intro i h1 h2
  have := h i h1
  simpa [List.getD, h1, h2] using this
def eqP (xs ys : List (Int × Int)) : Bool := decide (xs = ys)
set_option maxHeartbeats 1000000 in
theorem equal_nodes (A B : Option Addr) (c d m1 m2 : Nat) (xs ys : List (Int × Int)) (w : World) (hm1 : m1 = xs.length) (hm2 : m2 = ys.length) (hA : PA w A xs) (hB : PA w B ys) (hxl : xs.length ≤ maxLen) (hyl : ys.length ≤ maxLen) :
    Calls Try.prog 18 #[.slice A m1 c, .slice B m2 d] w fun e w' => e = .returned (.bool (eqP xs ys)) ∧ ∃ n, w' = w.drewN n := by
  subst hm1 hm2
  unfold maxLen at hxl hyl
  by_cases hl : xs.length = ys.length
  · have H := Lib.hid hl
    clear hl
    go_enter Try.func18, Try.ntmps18
    have hl0 : (xs.length : Int) = (ys.length : Int) := by rw [H.out]
    go_wp2
    clear hl0
    go_loopw [13] (fun i wr => ∃ (k j : Nat), k ≤ ys.length ∧ i = .int .i64 k ∧ wr = w.drewN j ∧ Hid (∀ i, i < k → xs.getD i (0, 0) = ys.getD i (0, 0))) (fun i _ => ys.length - (intOf i).toNat)
    case atStart => exact ⟨0, 0, Nat.zero_le _, rfl, rfl, Lib.hid (fun i hi => absurd hi (by omega))⟩
    case round =>
      obtain ⟨k, j, hk, rfl, rfl, HV⟩ := hrel
      by_cases hlty : k < ys.length
      · have hlt : k < xs.length := by rw [H.out]; exact hlty
        obtain ⟨bA, oA, rfl, hbA, hcA⟩ := hA (by omega)
        obtain ⟨bB, oB, rfl, hbB, hcB⟩ := hB (by omega)
        have c1 := (hcA k hlt).1
        have c2 := (hcB k hlty).1
        have c3 := (hcA k hlt).2
        have c4 := (hcB k hlty).2
        by_cases t1 : xs.getD k (0, 0) = ys.getD k (0, 0)
        · have HS : Hid (∀ i, i < k + 1 → xs.getD i (0, 0) = ys.getD i (0, 0)) := Lib.hid (fun i hi => by
            by_cases hik : i = k
            · subst hik; exact t1
            · exact HV.out i (by omega))
          rw [← t1] at c2 c4
          generalize (xs.getD k (0, 0)).1 = x at c1 c2
          generalize (xs.getD k (0, 0)).2 = y at c3 c4
          clear hcA hcB hA hB t1 HV
          go_wp2
          go_quiet (fail)
          go_wp2
          go_roundw
          case rel => exact ⟨k + 1, _, by omega, by go_num, rfl, HS⟩
          case measure => simp [intOf]; omega
        · have HE : Hid (eqP xs ys = false) := Lib.hid (decide_eq_false (fun h => t1 (by rw [h])))
          have t2 : ((xs.getD k (0, 0)).1 != (ys.getD k (0, 0)).1 || (xs.getD k (0, 0)).2 != (ys.getD k (0, 0)).2) = true := by
            rw [Bool.or_eq_true]
            simp only [bne_iff_ne]
            by_cases e1 : (xs.getD k (0, 0)).1 = (ys.getD k (0, 0)).1
            · right
              intro e2
              exact t1 (Prod.ext e1 e2)
            · exact .inl e1
          generalize (xs.getD k (0, 0)).1 = x at c1 t2
          generalize (xs.getD k (0, 0)).2 = y at c3 t2
          generalize (ys.getD k (0, 0)).1 = x' at c2 t2
          generalize (ys.getD k (0, 0)).2 = y' at c4 t2
          clear hcA hcB hA hB t1 HV
          by_cases hx : x = x'
          · subst hx
            have hy : y ≠ y' := by intro e; subst e; simp at t2
            have hy2 : (y == y') = false := by simpa using hy
            clear t2
            go_wp2
            go_quiet (fail)
            go_wp2
            go_ret
            exact ⟨ret_bool HE.out.symm, _, World.drewN_drewN _ _ _⟩
          · have hx2 : (x == x') = false := by simpa using hx
            clear t2
            go_wp2
            go_quiet (fail)
            go_wp2
            go_ret
            exact ⟨ret_bool HE.out.symm, _, World.drewN_drewN _ _ _⟩
      · have hk2 : k = xs.length := by rw [H.out]; omega
        subst hk2
        have HE : Hid (eqP xs ys = true) := Lib.hid (decide_eq_true (getP_ext H.out HV.out))
        have hge : ys.length ≤ xs.length := by omega
        clear hlty hk
        go_wp2
        go_ret
        exact ⟨ret_bool HE.out.symm, _, rfl⟩
  · have e : eqP xs ys = false := decide_eq_false (fun h => hl (by rw [h]))
    rw [e]
    go_enter Try.func18, Try.ntmps18
    go_wp2
    go_ret
    exact ⟨rfl, 0, rfl⟩

end Go.Proofs.Ythkfjiengemcfaa.lt
