/- The law's works, the document's Most. -/
import Derived.Test.YtfhapodidjkmaaaRingLaw
namespace Go.Proofs.Ytfhapodidjkmaaa
open Go.ChangeShapes Go.WideShapes Go.ChangeAt Go.RowKit Go.Shelf

theorem Newer.le {w : World} {t t' : Option Nat} {B : Nat} (h : Newer w t t') (ht : ∀ b, t = some b → B ≤ b) (hB : B ≤ w.heap.size) : ∀ b, t' = some b → B ≤ b := fun b e => by
  rcases h with rfl | ⟨b', e', hb⟩
  · exact ht b e
  · rw [e] at e'
    injection e' with e'
    omega

set_option maxHeartbeats 4000000 in
theorem works_any (w : World) : Calls Try.prog 15 #[] w fun e w' => e = .returned (.bool true) ∧ Below w.heap.size w w' := by
  go_enter Try.func15, Try.ntmps15
  go_wp2_with fail
  refine (new_any 2 w).mono ?_
  rintro e w1 ⟨s, rfl, rfl, h1, hb1, hz1⟩
  have H1 : Hid (QU w1 w.heap.size none 2 ([] : List Int)) := Lib.hid h1
  have HB1 := Lib.hid hb1
  have HZ1 : Hid (w.heap.size < w1.heap.size) := Lib.hid (by omega)
  clear h1 hb1 hz1
  go_wp2_with fail
  refine (put_yes H1.out 1 (by simp)).mono ?_
  rintro e w2 ⟨rfl, t2, h2, hT2, hN2⟩
  have H2 : Hid (QU w2 w.heap.size t2 2 [1]) := Lib.hid h2
  have HT2 : Hid (∀ b, t2 = some b → w.heap.size ≤ b) := Lib.hid (hN2.le (fun b e => by cases e) (by have := HZ1.out; omega))
  have HB2 : Hid (Below w.heap.size w w2) := Lib.hid (HB1.out.trans (hT2.below (Nat.le_refl _) (fun b e => by cases e) (by have := HZ1.out; omega)))
  clear h2 hT2 hN2 H1 HB1
  go_wp2_with fail
  refine (push_yes H2.out 2 (by simp)).mono ?_
  rintro e w3 ⟨rfl, t3, h3, hT3, hN3⟩
  have H3 : Hid (QU w3 w.heap.size t3 2 [2, 1]) := Lib.hid h3
  have HT3 : Hid (∀ b, t3 = some b → w.heap.size ≤ b) := Lib.hid (hN3.le HT2.out HB2.out.size)
  have HB3 : Hid (Below w.heap.size w w3) := Lib.hid (HB2.out.trans (hT3.below (Nat.le_refl _) HT2.out HB2.out.size))
  clear h3 hT3 hN3 H2 HB2 HT2
  go_wp2_with fail
  refine (put_no H3.out 3 (by simp)).mono ?_
  rintro e w4 ⟨rfl, j4, rfl⟩
  have H4 : Hid (QU (w3.drewN j4) w.heap.size t3 2 [2, 1]) := Lib.hid (H3.out.of_blocks rfl (fun _ _ => rfl))
  have HB4 : Hid (Below w.heap.size w (w3.drewN j4)) := Lib.hid (below_drewN HB3.out j4)
  clear H3 HB3
  generalize w3.drewN j4 = w4 at *
  go_wp2_with fail
  refine (list_any H4.out).mono ?_
  rintro e w5 ⟨A, c, rfl, hA, hl, hb⟩
  have HA : Hid (IA w5 A [2, 1]) := Lib.hid hA
  have H5 : Hid (QU w5 w.heap.size t3 2 ([2] ++ [1])) := Lib.hid (H4.out.keep hb)
  have HAL : Hid (∀ a, A = some a → a.block ≠ w.heap.size ∧ t3 ≠ some a.block) := Lib.hid (fun a e => by
    have h1 := hl a e
    have h2 := H4.out.lt
    exact ⟨by omega, fun e2 => by have := h2.2 _ e2; omega⟩)
  have HB5 : Hid (Below w.heap.size w w5) := Lib.hid (HB4.out.trans (hb.mono HB4.out.size))
  clear hA hl hb H4 HB4
  rw [show ([2, 1] : List Int).length = 2 from rfl]
  go_wp2_with fail
  refine (last_some H5.out).mono ?_
  rintro e w6 ⟨rfl, h6, hT6⟩
  have H6 := Lib.hid h6
  have HA6 : Hid (IA w6 A [2, 1]) := Lib.hid (HA.out.turns hT6 HAL.out)
  have HB6 : Hid (Below w.heap.size w w6) := Lib.hid (HB5.out.trans (hT6.below (Nat.le_refl _) HT3.out HB5.out.size))
  clear h6 hT6 HA H5 HB5 HAL HT3
  go_wp2_with fail
  have HI := Lib.hid (ia_lit w6 [2, 1] #[.int .i64 2, .int .i64 1] 3 rfl)
  have HA7 : Hid (IA (w6.alloc (.cells #[.int .i64 2, .int .i64 1] 3)) A [2, 1]) := Lib.hid (HA6.out.alloc _)
  refine (equal_ints _ _ _ _ _ _ [2, 1] [2, 1] _ rfl rfl HA7.out HI.out (by decide) (by decide)).mono ?_
  rintro e w7 ⟨rfl, j7, rfl⟩
  have HE : Hid (eqB [2, 1] [2, 1] = true) := Lib.hid (decide_eq_true rfl)
  rw [HE.out]
  have H7 : Hid (QU ((w6.alloc (.cells #[.int .i64 2, .int .i64 1] 3)).drewN j7) w.heap.size t3 2 [2]) := Lib.hid (H6.out.keep (below_drewN ((Below.refl _ w6).alloc (Nat.le_refl _) _) j7))
  have HB7 : Hid (Below w.heap.size w ((w6.alloc (.cells #[.int .i64 2, .int .i64 1] 3)).drewN j7)) := Lib.hid (below_drewN (HB6.out.alloc HB6.out.size _) j7)
  clear HE HI HA7 HA6 H6 HB6
  generalize (w6.alloc (.cells #[.int .i64 2, .int .i64 1] 3)).drewN j7 = w7 at *
  obtain ⟨L, f, g, h8, _⟩ := H7.out
  have H8 := Lib.hid h8
  clear h8
  go_wp2_with fail
  refine (len_any H8.out).mono ?_
  rintro e w8 ⟨rfl, rfl⟩
  rw [show ([2] : List Int).length = 1 from rfl]
  go_wp2_with fail
  go_ret
  exact ⟨rfl, HB7.out⟩

theorem most_any (m : Int) (w : World) : Calls Try.prog 28 #[.int .i64 m] w fun e w' => e = .returned (.int .i64 (mostOf m : Nat)) ∧ w = w' := by
  have HM : Hid ((m < 0 → 0 = (mostOf m : Int)) ∧ (65536 < m → 65536 = (mostOf m : Int)) ∧ (0 ≤ m → m ≤ 65536 → m = (mostOf m : Int))) := Lib.hid (by unfold mostOf; omega)
  go_enter Try.func28, Try.ntmps28
  go_wp2
  all_goals
    go_ret
    refine ⟨ret_int ?_, rfl⟩
    first | exact HM.out.1 (by assumption) | exact HM.out.2.1 (by assumption) | exact HM.out.2.2 (by assumption) (by assumption)
end Go.Proofs.Ytfhapodidjkmaaa
