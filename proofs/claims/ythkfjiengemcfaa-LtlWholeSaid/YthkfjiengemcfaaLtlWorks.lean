/- The law's example. -/
import Derived.Test.YthkfjiengemcfaaLtlKids
import Derived.Test.YthkfjiengemcfaaLtlProps
import Derived.Test.YthkfjiengemcfaaLtlRefused
import Derived.Test.YthkfjiengemcfaaLtlUntils
import Derived.Deep.QuietTactic
namespace Go.Proofs.Ythkfjiengemcfaa.lt
open Go.ChangeShapes Go.WideShapes Go.ChangeAt Go.RowKit

set_option maxHeartbeats 1000000 in
theorem same_ints (A B : Option Addr) (c d m1 m2 : Nat) (xs ys : List Int) (w : World) (hm1 : m1 = xs.length) (hm2 : m2 = ys.length) (hA : IA w A xs) (hB : IA w B ys) (hxl : xs.length ≤ maxLen) (hyl : ys.length ≤ maxLen) :
    Calls Try.prog 15 #[.slice A m1 c, .slice B m2 d] w fun e w' => e = .returned (.bool (eqB xs ys)) ∧ ∃ n, w' = w.drewN n := by
  subst hm1 hm2
  unfold maxLen at hxl hyl
  by_cases hl : xs.length = ys.length
  · have H := Lib.hid hl
    clear hl
    go_enter Try.func15, Try.ntmps15
    have hl0 : (xs.length : Int) = (ys.length : Int) := by rw [H.out]
    go_wp2
    clear hl0
    go_loopw [13] (fun i wr => ∃ (k j : Nat), k ≤ ys.length ∧ i = .int .i64 k ∧ wr = w.drewN j ∧ Hid (∀ i, i < k → xs.getD i 0 = ys.getD i 0)) (fun i _ => ys.length - (intOf i).toNat)
    case atStart => exact ⟨0, 0, Nat.zero_le _, rfl, rfl, Lib.hid (fun i hi => absurd hi (by omega))⟩
    case round =>
      obtain ⟨k, j, hk, rfl, rfl, HV⟩ := hrel
      by_cases hlty : k < ys.length
      · have hlt : k < xs.length := by rw [H.out]; exact hlty
        obtain ⟨bA, oA, rfl, hbA, hcA⟩ := hA (by omega)
        obtain ⟨bB, oB, rfl, hbB, hcB⟩ := hB (by omega)
        have c1 := hcA k hlt
        have c2 := hcB k hlty
        by_cases t1 : xs.getD k 0 = ys.getD k 0
        · have HS : Hid (∀ i, i < k + 1 → xs.getD i 0 = ys.getD i 0) := Lib.hid (fun i hi => by
            by_cases hik : i = k
            · subst hik; exact t1
            · exact HV.out i (by omega))
          rw [← t1] at c2
          generalize xs.getD k 0 = x at c1 c2
          clear hcA hcB hA hB t1 HV
          go_wp2
          go_quiet (fail)
          go_wp2
          go_roundw
          case rel => exact ⟨k + 1, _, by omega, by go_num, rfl, HS⟩
          case measure => simp [intOf]; omega
        · have HE : Hid (eqB xs ys = false) := Lib.hid (decide_eq_false (fun h => t1 (by rw [h])))
          generalize xs.getD k 0 = x at c1 t1
          generalize ys.getD k 0 = y at c2 t1
          have t2 : (x != y) = true := by simpa using t1
          clear hcA hcB hA hB t1 HV
          go_wp2
          go_quiet (fail)
          go_wp2
          go_ret
          exact ⟨ret_bool HE.out.symm, _, World.drewN_drewN _ _ _⟩
      · have hk2 : k = xs.length := by rw [H.out]; omega
        subst hk2
        have HE : Hid (eqB xs ys = true) := Lib.hid (decide_eq_true (getD_ext' H.out HV.out))
        have hge : ys.length ≤ xs.length := by omega
        clear hlty hk
        go_wp2
        go_ret
        exact ⟨ret_bool HE.out.symm, _, rfl⟩
  · have e : eqB xs ys = false := decide_eq_false (fun h => hl (by rw [h]))
    rw [e]
    go_enter Try.func15, Try.ntmps15
    go_wp2
    go_ret
    exact ⟨rfl, 0, rfl⟩


def exF : List (Int × Int) := [(3, 0), (3, 1), (9, 0)]
theorem pa_ex (w : World) : PA (w.alloc (.cells #[.int .i64 3, .int .i64 0, .int .i64 3, .int .i64 1, .int .i64 9, .int .i64 0] 34)) (some ⟨w.heap.size, 0, none⟩) exF := fun _ => by
  refine ⟨_, 0, rfl, by simp, fun i hi => ?_⟩
  have hi : i < 3 := hi
  rcases i with _|_|_|i
  all_goals first
    | exact ⟨World.cell?_alloc_at _ _ _ _ rfl, World.cell?_alloc_at _ _ _ _ rfl⟩
    | omega
theorem pa_tail {w : World} {b : Nat} (h : PA w (some ⟨b, 0, none⟩) exF) : PA w (some ⟨b, 2, none⟩) [(3, 1), (9, 0)] := fun _ => by
  obtain ⟨b', o', e, hb, hc⟩ := h (by decide)
  injection e with e
  injection e with e1 e2
  subst e1 e2
  refine ⟨_, 2, rfl, hb, fun i hi => ?_⟩
  have hi : i < 2 := hi
  rcases i with _|_|i
  · exact hc 1 (by decide)
  · exact hc 2 (by decide)
  · omega
theorem pa_head {w : World} {b : Nat} (h : PA w (some ⟨b, 0, none⟩) exF) : PA w (some ⟨b, 0, none⟩) [(3, 0), (3, 1)] := fun _ => by
  obtain ⟨b', o', e, hb, hc⟩ := h (by decide)
  injection e with e
  injection e with e1 e2
  subst e1 e2
  refine ⟨_, 0, rfl, hb, fun i hi => ?_⟩
  have hi : i < 2 := hi
  rcases i with _|_|i
  · exact hc 0 (by decide)
  · exact hc 1 (by decide)
  · omega
theorem ex_kids : kidsF exF 2 = (0, 1) := by decide
theorem ex_wr : wrF 0 exF = 0 := by decide
theorem ex_spans : spansL exF = [0, 1, 0] := by decide
theorem ex_tail : wrF 0 [(3, 1), (9, 0)] = 4 := by decide
theorem ex_head : wrF 0 [(3, 0), (3, 1)] = 5 := by decide
theorem ex_props : propsF exF = 3 := by decide
theorem ex_untils : untilsF exF = [2] := by decide
set_option maxRecDepth 20000 in
set_option maxHeartbeats 8000000 in
theorem works_any0 (w : World) : ∀ hb, hb = w.heap.size → Calls Try.prog 8 #[] w (fun e W' => e = .returned (.bool true) ∧ Below hb w W') := by
  intro hb hbe
  have HLE : Hid (hb ≤ w.heap.size) := Lib.hid (Nat.le_of_eq hbe)
  go_enter Try.func8, Try.ntmps8
  go_upto_region 2 with (fail)
  obtain ⟨w1, HW1⟩ : ∃ w1, w1 = w.alloc (.cells #[.int .i64 3, .int .i64 0, .int .i64 3, .int .i64 1, .int .i64 9, .int .i64 0] 34) := ⟨_, rfl⟩
  have HP : Hid (PA w1 (some ⟨w.heap.size, 0, none⟩) exF) := Lib.hid (by rw [HW1]; exact pa_ex w)
  have HB1 : Hid (Below w.heap.size w w1) := Lib.hid (by rw [HW1]; exact below_one _ _)
  rw [← HW1]
  clear HW1
  rw [← hbe]
  rw [← hbe] at HP HB1
  clear hbe
  go_wp2_with fail
  refine (kids_any exF 2 _ 3 3 w1 rfl (by decide) HP.out).mono ?_
  rw [ex_kids]
  rintro x w2 ⟨rfl, hb2⟩
  have HP2 : Hid (PA w2 (some ⟨hb, 0, none⟩) exF) := Lib.hid (HP.out.below hb2)
  have HB2 : Hid (Below hb w w2) := Lib.hid (HB1.out.trans (hb2.mono (Nat.le_trans HLE.out HB1.out.size)))
  clear hb2 HP HB1
  go_wp2_with fail
  refine (wn.check_any exF _ 3 3 w2 rfl HP2.out (by decide)).mono ?_
  rw [if_neg (by decide), ex_wr]
  rintro x w3 ⟨rfl, hb3⟩
  have HP3 : Hid (PA w3 (some ⟨hb, 0, none⟩) exF) := Lib.hid (HP2.out.below hb3)
  have HB3 : Hid (Below hb w w3) := Lib.hid (HB2.out.trans (hb3.mono (Nat.le_trans HLE.out HB2.out.size)))
  clear hb3 HP2 HB2
  go_wp2_with fail
  refine (spans_any exF _ 3 3 w3 rfl (by decide) HP3.out).mono ?_
  rw [ex_spans]
  rintro x w4 ⟨A4, c4, rfl, i4, hb4⟩
  have HP4 : Hid (PA w4 (some ⟨hb, 0, none⟩) exF) := Lib.hid (HP3.out.below hb4)
  have HB4 : Hid (Below hb w w4) := Lib.hid (HB3.out.trans (hb4.mono (Nat.le_trans HLE.out HB3.out.size)))
  have HI4 := Lib.hid i4.ia
  clear hb4 HP3 HB3 i4
  go_wp2_with fail
  obtain ⟨u4, HU4⟩ : ∃ u4, u4 = w4.alloc (.cells #[.int .i64 0, .int .i64 1, .int .i64 0] 3) := ⟨_, rfl⟩
  have HI4a : Hid (IA u4 A4 [0, 1, 0]) := Lib.hid (by rw [HU4]; exact HI4.out.below (below_one _ _))
  have HI4b : Hid (IA u4 (some ⟨w4.heap.size, 0, none⟩) [0, 1, 0]) := Lib.hid (by rw [HU4]; exact ia_lit w4 [0, 1, 0] _ _ rfl)
  have HBU4 : Hid (Below w4.heap.size w4 u4) := Lib.hid (by rw [HU4]; exact below_one _ _)
  rw [← HU4]
  clear HU4
  refine (same_ints A4 _ c4 3 3 3 [0, 1, 0] [0, 1, 0] _ rfl rfl HI4a.out HI4b.out (by decide) (by decide)).mono ?_
  rintro x w5 ⟨rfl, j, rfl⟩
  rw [show eqB [0, 1, 0] [0, 1, 0] = true from by decide]
  have HB5 : Hid (Below w4.heap.size w4 (u4.drewN j)) := Lib.hid (below_drewN HBU4.out j)
  clear HI4a HI4b HBU4
  generalize u4.drewN j = w5 at *
  have HP5 : Hid (PA w5 (some ⟨hb, 0, none⟩) exF) := Lib.hid (HP4.out.below HB5.out)
  have HB6 : Hid (Below hb w w5) := Lib.hid (HB4.out.trans (HB5.out.mono (Nat.le_trans HLE.out HB4.out.size)))
  clear HP4 HB4 HB5 HI4
  go_wp2_with fail
  refine (wn.check_any [(3, 1), (9, 0)] _ 2 2 w5 rfl (pa_tail HP5.out) (by decide)).mono ?_
  rw [if_neg (by decide), ex_tail]
  rintro x w6 ⟨rfl, hb6⟩
  have HP6 : Hid (PA w6 (some ⟨hb, 0, none⟩) exF) := Lib.hid (HP5.out.below hb6)
  have HB7 : Hid (Below hb w w6) := Lib.hid (HB6.out.trans (hb6.mono (Nat.le_trans HLE.out HB6.out.size)))
  clear hb6 HP5 HB6
  go_wp2_with fail
  refine (wn.check_any [(3, 0), (3, 1)] _ 3 2 w6 rfl (pa_head HP6.out) (by decide)).mono ?_
  rw [if_neg (by decide), ex_head]
  rintro x w7 ⟨rfl, hb7⟩
  have HP7 : Hid (PA w7 (some ⟨hb, 0, none⟩) exF) := Lib.hid (HP6.out.below hb7)
  have HB8 : Hid (Below hb w w7) := Lib.hid (HB7.out.trans (hb7.mono (Nat.le_trans HLE.out HB7.out.size)))
  clear hb7 HP6 HB7
  go_wp2_with fail
  refine (props_any exF _ 3 3 w7 rfl (by decide) HP7.out).mono ?_
  rw [ex_props]
  rintro x w8 ⟨rfl, hb8⟩
  have HP8 : Hid (PA w8 (some ⟨hb, 0, none⟩) exF) := Lib.hid (HP7.out.below hb8)
  have HB9 : Hid (Below hb w w8) := Lib.hid (HB8.out.trans (hb8.mono (Nat.le_trans HLE.out HB8.out.size)))
  clear hb8 HP7 HB8
  go_wp2_with fail
  refine (untils_any exF _ 3 3 w8 rfl (by decide) HP8.out).mono ?_
  rw [ex_untils]
  rintro x w9 ⟨A9, c9, rfl, i9, hb9⟩
  have HB10 : Hid (Below hb w w9) := Lib.hid (HB9.out.trans (hb9.mono (Nat.le_trans HLE.out HB9.out.size)))
  have HI9 := Lib.hid i9.ia
  clear hb9 HP8 HB9 i9
  go_wp2_with fail
  obtain ⟨u9, HU9⟩ : ∃ u9, u9 = w9.alloc (.cells #[.int .i64 2] 3) := ⟨_, rfl⟩
  have HI9a : Hid (IA u9 A9 [2]) := Lib.hid (by rw [HU9]; exact HI9.out.below (below_one _ _))
  have HI9b : Hid (IA u9 (some ⟨w9.heap.size, 0, none⟩) [2]) := Lib.hid (by rw [HU9]; exact ia_lit w9 [2] _ _ rfl)
  have HBU9 : Hid (Below hb w u9) := Lib.hid (by rw [HU9]; exact HB10.out.alloc (Nat.le_trans HLE.out HB10.out.size) _)
  rw [← HU9]
  clear HU9
  refine (same_ints A9 _ c9 1 1 1 [2] [2] _ rfl rfl HI9a.out HI9b.out (by decide) (by decide)).mono ?_
  rintro x w10 ⟨rfl, j2, rfl⟩
  rw [show eqB [2] [2] = true from by decide]
  have HB11 : Hid (Below hb w (u9.drewN j2)) := Lib.hid (below_drewN HBU9.out j2)
  generalize u9.drewN j2 = w10 at *
  go_wp2
  go_ret
  exact ⟨rfl, HB11.out⟩
theorem works_any (w : World) : Calls Try.prog 8 #[] w (LawPost w) := works_any0 w _ rfl
end Go.Proofs.Ythkfjiengemcfaa.lt
