/- The law's works. -/
import Derived.Test.YtkaddfbnlkmehaaPermRank
import Derived.Test.YtkaddfbnlkmehaaPermOrd
namespace Go.Proofs.Ytkaddfbnlkmehaa
open Go.ChangeShapes Go.WideShapes Go.ChangeAt Go.RowKit

theorem prm_120 : Prm [1, 2, 0] := chk_iff.1 (by decide)
set_option maxRecDepth 100000 in
set_option maxHeartbeats 4000000 in
theorem works_any (w : World) : Calls Try.prog 24 #[] w fun e w' => e = .returned (.bool true) ∧ Below w.heap.size w w' := by
  go_enter Try.func24, Try.ntmps24
  go_wp2_with fail
  have I1 := Lib.hid (ia_lit w [1, 2, 0] #[.int .i64 1, .int .i64 2, .int .i64 0] 3 rfl)
  have I2 := Lib.hid (ia_lit (w.alloc (.cells #[.int .i64 1, .int .i64 2, .int .i64 0] 3)) [0, 2, 1] #[.int .i64 0, .int .i64 2, .int .i64 1] 3 rfl)
  have I1' := Lib.hid (I1.out.alloc (.cells #[.int .i64 0, .int .i64 2, .int .i64 1] 3))
  have HB : Hid (Below w.heap.size w ((w.alloc (.cells #[.int .i64 1, .int .i64 2, .int .i64 0] 3)).alloc (.cells #[.int .i64 0, .int .i64 2, .int .i64 1] 3))) := Lib.hid (((Below.refl _ _).alloc (Nat.le_refl _) _).alloc (by simp) _)
  rw [World.size_alloc] at I2
  generalize (w.alloc (.cells #[.int .i64 1, .int .i64 2, .int .i64 0] 3)).alloc (.cells #[.int .i64 0, .int .i64 2, .int .i64 1] 3) = w0 at *
  refine (mul_any _ _ _ _ _ _ [1, 2, 0] [0, 2, 1] _ rfl rfl I1'.out I2.out (by decide) (by decide)).mono ?_
  rintro e w1 ⟨A, c, rfl, hA, hb⟩
  have HE : Hid (mulF [1, 2, 0] [0, 2, 1] = [2, 1, 0]) := Lib.hid (by decide)
  rw [HE.out] at *
  have HA := Lib.hid hA.ia
  have HB1 := Lib.hid (HB.out.trans (hb.mono HB.out.size))
  clear hA hb I1 I2 I1' HB
  rw [show ([2, 1, 0] : List Int).length = 3 from rfl]
  go_wp2_with fail
  have I3 := Lib.hid (ia_lit w1 [2, 1, 0] #[.int .i64 2, .int .i64 1, .int .i64 0] 3 rfl)
  have HA' := Lib.hid (HA.out.alloc (.cells #[.int .i64 2, .int .i64 1, .int .i64 0] 3))
  have HB2 := Lib.hid (HB1.out.alloc HB1.out.size (.cells #[.int .i64 2, .int .i64 1, .int .i64 0] 3))
  generalize w1.alloc (.cells #[.int .i64 2, .int .i64 1, .int .i64 0] 3) = w2 at *
  refine (equal_ints _ _ _ _ _ _ [2, 1, 0] [2, 1, 0] _ rfl rfl HA'.out I3.out (by decide) (by decide)).mono ?_
  rintro e w3 ⟨rfl, j, rfl⟩
  have HQ : Hid (eqB [2, 1, 0] [2, 1, 0] = true) := Lib.hid (decide_eq_true rfl)
  rw [HQ.out]
  have HB3 := Lib.hid (below_drewN HB2.out j)
  clear HA HA' I3 HB1 HB2
  generalize w2.drewN j = w3 at *
  go_wp2_with fail
  have I4 := Lib.hid (ia_lit w3 [1, 0, 2] #[.int .i64 1, .int .i64 0, .int .i64 2] 3 rfl)
  have HB4 := Lib.hid (HB3.out.alloc HB3.out.size (.cells #[.int .i64 1, .int .i64 0, .int .i64 2] 3))
  generalize w3.alloc (.cells #[.int .i64 1, .int .i64 0, .int .i64 2] 3) = w4 at *
  refine (rank_any _ _ _ [1, 0, 2] _ rfl I4.out (by decide)).mono ?_
  rintro e w5 ⟨rfl, hb⟩
  have HR : Hid (rkF [1, 0, 2] = 2) := Lib.hid (by decide)
  rw [HR.out]
  have HB5 := Lib.hid (HB4.out.trans (hb.mono HB4.out.size))
  clear hb I4 HB3 HB4
  go_wp2_with fail
  have I5 := Lib.hid (ia_lit w5 [1, 2, 0] #[.int .i64 1, .int .i64 2, .int .i64 0] 3 rfl)
  have HB6 := Lib.hid (HB5.out.alloc HB5.out.size (.cells #[.int .i64 1, .int .i64 2, .int .i64 0] 3))
  generalize w5.alloc (.cells #[.int .i64 1, .int .i64 2, .int .i64 0] 3) = w6 at *
  refine (order_yes _ _ _ [1, 2, 0] _ rfl I5.out prm_120 2 (by decide) (by decide) (by decide)).mono ?_
  rintro e w7 ⟨rfl, hb⟩
  have HB7 := Lib.hid (HB6.out.trans (hb.mono HB6.out.size))
  clear hb I5 HB6 HB5
  go_wp2_with fail
  refine (rank_any none 0 0 [] _ rfl (IA.nil _ _) (by decide)).mono ?_
  rintro e w8 ⟨rfl, hb⟩
  have HR2 : Hid (rkF [] = 0) := Lib.hid (by decide)
  rw [HR2.out]
  have HB8 := Lib.hid (HB7.out.trans (hb.mono HB7.out.size))
  clear hb HB7
  go_wp2_with fail
  have I6 := Lib.hid (ia_lit w8 [1, 1] #[.int .i64 1, .int .i64 1] 3 rfl)
  have HB9 := Lib.hid (HB8.out.alloc HB8.out.size (.cells #[.int .i64 1, .int .i64 1] 3))
  generalize w8.alloc (.cells #[.int .i64 1, .int .i64 1] 3) = w9 at *
  refine (check_any _ _ _ [1, 1] _ rfl I6.out (by decide)).mono ?_
  rintro e w10 ⟨rfl, hb⟩
  have HC : Hid (chk [1, 1] = false) := Lib.hid (by decide)
  rw [HC.out]
  have HB10 := Lib.hid (HB9.out.trans (hb.mono HB9.out.size))
  clear hb I6 HB8 HB9
  go_wp2
  go_ret
  exact ⟨rfl, HB10.out⟩
end Go.Proofs.Ytkaddfbnlkmehaa
