/- What the laws hold of some words. -/
import Derived.Test.YtophajljjnjcdaaWdLit
namespace Go.Proofs.Ytophajljjnjcdaa.wd
open Go.ChangeShapes Go.WideShapes Go.ChangeAt Go.RowKit Go.Deep sr lt nf

set_option maxRecDepth 20000 in
set_option maxHeartbeats 8000000 in
theorem awake_any (w : World) : Calls Try.prog 9 #[] w (ValP w (.bool true)) := by
  go_enter Try.func9, Try.ntmps9
  go_upto_region 2 with (fail)
  obtain ⟨w1, HW1⟩ : ∃ w1, w1 = w.alloc (.cells #[.int .i64 3, .int .i64 0, .int .i64 11, .int .i64 0, .int .i64 12, .int .i64 0] 44) := ⟨_, rfl⟩
  have HP : Hid (PA w1 (some ⟨w.heap.size, 0, none⟩) exF) := Lib.hid (by rw [HW1]; exact pa_ex w)
  have HB1 : Hid (Below w.heap.size w w1) := Lib.hid (by rw [HW1]; exact below_one _ _)
  rw [← HW1]
  clear HW1
  go_upto_region 3 with (fail)
  obtain ⟨w3, HW3, HB3, HWX⟩ : ∃ w3, ((w1.alloc (.cells #[.int .u64 0, .int .u64 2, .int .u64 0] 30)).alloc (.cells #[.int .u64 2, .int .u64 0, .int .u64 2, .int .u64 0] 30)).alloc (.cells #[.slice (some ⟨w1.heap.size, 0, none⟩) 3 3, .slice (some ⟨w1.heap.size + 1, 0, none⟩) 4 4] 24) = w3 ∧ Hid (Below w1.heap.size w1 w3) ∧
      Hid (∀ W, Below w3.heap.size w3 W → WdR W ⟨some ⟨w1.heap.size, 0, none⟩, 3, 3, some ⟨w1.heap.size + 1, 0, none⟩, 4, 4⟩ [0, 2, 0] [2, 0, 2, 0] ∧ W.cell? ⟨w1.heap.size + 1 + 1, 0, none⟩ = some (.slice (some ⟨w1.heap.size, 0, none⟩) 3 3) ∧ W.cell? ⟨w1.heap.size + 1 + 1, 1, none⟩ = some (.slice (some ⟨w1.heap.size + 1, 0, none⟩) 4 4)) := by
    have hx := wd_two w1 [0, 2, 0] [2, 0, 2, 0] 3 4 _ _ rfl rfl rfl rfl (by decide) (by decide) (by decide) (by decide)
    obtain ⟨w2, hw2⟩ : ∃ w2, (w1.alloc (.cells ([0, 2, 0].map (Value.int .u64)).toArray 30)).alloc (.cells ([2, 0, 2, 0].map (Value.int .u64)).toArray 30) = w2 := ⟨_, rfl⟩
    rw [hw2] at hx
    have hs2 : w2.heap.size = w1.heap.size + 1 + 1 := by rw [← hw2]; simp
    have hb2 : Below w1.heap.size w1 w2 := by rw [← hw2]; exact ((Below.refl _ _).alloc (Nat.le_refl _) _).alloc (by simp) _
    have hb3 := below_one w2 (.cells #[.slice (some ⟨w1.heap.size, 0, none⟩) 3 3, .slice (some ⟨w1.heap.size + 1, 0, none⟩) 4 4] 24)
    refine ⟨_, by rw [← hw2]; rfl, Lib.hid (hb2.trans (hb3.mono hb2.size)), Lib.hid (fun W hW => ?_)⟩
    have hz : (w2.alloc (.cells #[.slice (some ⟨w1.heap.size, 0, none⟩) 3 3, .slice (some ⟨w1.heap.size + 1, 0, none⟩) 4 4] 24)).heap.size = w2.heap.size + 1 := by simp
    refine ⟨(hx.below hb3).below hW, (hW.cell (p := ⟨w1.heap.size + 1 + 1, 0, none⟩) (by show w1.heap.size + 1 + 1 < _; omega)).trans (by rw [← hs2]; exact World.cell?_alloc_at _ _ _ _ (by simp)), (hW.cell (p := ⟨w1.heap.size + 1 + 1, 1, none⟩) (by show w1.heap.size + 1 + 1 < _; omega)).trans (by rw [← hs2]; exact World.cell?_alloc_at _ _ _ _ (by simp))⟩
  rw [HW3]
  clear HW3
  have HB3W : Hid (Below w.heap.size w w3) := Lib.hid (HB1.out.trans (HB3.out.mono HB1.out.size))
  have HP3 : Hid (∀ W, Below w3.heap.size w3 W → PA W (some ⟨w.heap.size, 0, none⟩) exF) := Lib.hid (fun W hW => HP.out.below (HB3.out.trans (hW.mono HB3.out.size)))
  generalize w1.heap.size = g1 at *
  clear HP HB1 HB3
  go_wp2_with fail
  refine (truth_any exF ⟨none, 0, 0, some ⟨w3.heap.size, 0, none⟩, 2, 2⟩ [] [1, 0] [1, 0] _ _ 3 2 _ rfl (by decide) (HP3.out _ (below_one _ _)) (wd_one w3 [1, 0] 2 _ rfl rfl (by decide) (by decide)) rfl rfl).mono ?_
  intro r w5 hr
  unfold TruP at hr
  rw [if_pos ex_ok] at hr
  obtain ⟨tb, X, rfl, hb5, ht5, hR⟩ := hr
  have HC5 : Hid (Below w3.heap.size w3 w5) := Lib.hid ((below_one w3 _).trans (hb5.mono (by simp)))
  obtain ⟨m1, m2, _, _⟩ := hR.tru 2 (by decide) trivial
  obtain ⟨m3, m4, _, _⟩ := hR.tru 0 (by decide) trivial
  obtain ⟨A2, n2, c2, HX2⟩ : ∃ A n c, X 2 = (A, n, c) := ⟨_, _, _, rfl⟩
  obtain ⟨A0, n0, c0, HX0⟩ : ∃ A n c, X 0 = (A, n, c) := ⟨_, _, _, rfl⟩
  have t2 := hR.row.cell (i := 2) (by decide)
  have t0 := hR.row.cell (i := 0) (by decide)
  rw [HX2] at m1 m2 t2
  rw [HX0] at m3 m4 t0
  dsimp only at m1 m2 m3 m4
  subst m1
  subst m3
  have m2 : BL w5 A2 [true, true] := by rw [← ex_t2]; exact m2
  have m4 : BL w5 A0 [true, false] := by rw [← ex_t0]; exact m4
  obtain ⟨g2, o2, rfl, hg2, hc2⟩ := m2 (by decide)
  obtain ⟨g0, o0, rfl, hg0, hc0⟩ := m4 (by decide)
  have htl := hR.row.lt
  have HT : Hid (∀ W, Below w5.heap.size w5 W → (W.cell? ⟨tb, 2, none⟩ = some (.slice (some ⟨g2, o2, none⟩) 2 c2) ∧ W.cell? ⟨tb, 0, none⟩ = some (.slice (some ⟨g0, o0, none⟩) 2 c0)) ∧ (W.cell? ⟨g2, o2, none⟩ = some (.bool true) ∧ W.cell? ⟨g2, o2 + 1, none⟩ = some (.bool true)) ∧ W.cell? ⟨g0, o0, none⟩ = some (.bool true) ∧ W.cell? ⟨g0, o0 + 1, none⟩ = some (.bool false)) := Lib.hid (fun W hW =>
    ⟨⟨(hW.cell (p := ⟨tb, 2, none⟩) htl).trans t2, (hW.cell (p := ⟨tb, 0, none⟩) htl).trans t0⟩, ⟨(hW.cell (p := ⟨g2, o2, none⟩) hg2).trans (hc2 0 (by decide)), (hW.cell (p := ⟨g2, o2 + 1, none⟩) hg2).trans (hc2 1 (by decide))⟩, (hW.cell (p := ⟨g0, o0, none⟩) hg0).trans (hc0 0 (by decide)), (hW.cell (p := ⟨g0, o0 + 1, none⟩) hg0).trans (hc0 1 (by decide))⟩)
  clear hb5 ht5 hR HX2 HX0 t2 t0 m2 m4 hg2 hg0 hc2 hc0 htl
  obtain ⟨⟨t2, t0⟩, ⟨u1, u2⟩, u3, u4⟩ := HT.out w5 (Below.refl _ _)
  go_wp2_with fail
  clear t2 t0 u1 u2 u3 u4
  refine (at_any ⟨some ⟨w5.heap.size, 0, none⟩, 1, 1, some ⟨w5.heap.size + 1, 0, none⟩, 2, 2⟩ [1] [0, 2] 4 _ (wd_two w5 [1] [0, 2] 1 2 _ _ rfl rfl rfl rfl (by decide) (by decide) (by decide) (by decide)) (by decide) (by decide)).mono ?_
  rintro e6 w6 ⟨he6, hb6⟩
  rw [ex_at] at he6
  subst he6
  have HC6 : Hid (Below w5.heap.size w5 w6) := Lib.hid ((((Below.refl _ w5).alloc (Nat.le_refl _) _).alloc (by simp) _).trans (hb6.mono (by simp; omega)))
  clear hb6
  obtain ⟨hx6, z1, z2⟩ := HWX.out w6 (HC5.out.trans (HC6.out.mono HC5.out.size))
  have HX6 := Lib.hid hx6
  clear hx6
  go_wp2_with fail
  refine (norm_any ⟨some ⟨g1, 0, none⟩, 3, 3, some ⟨g1 + 1, 0, none⟩, 4, 4⟩ [0, 2, 0] [2, 0, 2, 0] w6 HX6.out).mono ?_
  rintro e7 w7 ⟨X7, rfl, hx7, hb7, _, _⟩
  rw [ex_norm] at hx7
  have HX7 := Lib.hid hx7
  have HC7 : Hid (Below w5.heap.size w5 w7) := Lib.hid (HC6.out.trans (hb7.mono HC6.out.size))
  clear hx7 hb7 z1 z2 HX6
  obtain ⟨A7, n7, c7, B7, m7, d7⟩ := X7
  unfold WX.v
  dsimp only
  go_wp2_with fail
  refine (lsame_any ⟨A7, n7, c7, B7, m7, d7⟩ ⟨none, 0, 0, some ⟨w7.heap.size, 0, none⟩, 2, 2⟩ _ _ [] [0, 2] _ (HX7.out.below (below_one _ _)) (wd_one w7 [0, 2] 2 _ rfl rfl (by decide) (by decide))).mono ?_
  rintro e8 w8 ⟨he8, hb8⟩
  rw [ex_weq] at he8
  subst he8
  have HC8 : Hid (Below w5.heap.size w5 w8) := Lib.hid (HC7.out.trans (((below_one w7 _).trans (hb8.mono (by simp))).mono HC7.out.size))
  clear hb8 HX7
  obtain ⟨⟨t2, t0⟩, ⟨u1, u2⟩, u3, u4⟩ := HT.out w8 HC8.out
  have HD8 : Hid (Below w3.heap.size w3 w8) := Lib.hid (HC5.out.trans (HC8.out.mono HC5.out.size))
  obtain ⟨hx8, z1, z2⟩ := HWX.out w8 HD8.out
  have HX8 := Lib.hid hx8
  clear hx8
  go_wp2_with fail
  clear t2 t0 u1 u2 u3 u4
  refine (holds_any exF ⟨some ⟨g1, 0, none⟩, 3, 3, some ⟨g1 + 1, 0, none⟩, 4, 4⟩ [0, 2, 0] [2, 0, 2, 0] [0, 2, 0, 2, 0, 2, 0] _ _ 3 7 w8 rfl (by decide) (HP3.out _ HD8.out) HX8.out rfl rfl).mono ?_
  rintro e9 w9 ⟨he9, hb9⟩
  rw [ex_holds] at he9
  subst he9
  have HD9 : Hid (Below w3.heap.size w3 w9) := Lib.hid (HD8.out.trans (hb9.mono HD8.out.size))
  clear hb9 z1 z2 HX8
  go_wp2_with fail
  refine (check_any ⟨none, 0, 0, none, 0, 0⟩ w9 (by decide) (by decide)).mono ?_
  rintro e10 w10 ⟨rfl, hb10⟩
  have HD10 : Hid (Below w3.heap.size w3 w10) := Lib.hid (HD9.out.trans (hb10.mono HD9.out.size))
  have hck : chkF 0 = 8 := rfl
  obtain ⟨_, z1, z2⟩ := HWX.out w10 HD10.out
  clear hb10
  go_wp2_with fail
  clear z1 z2
  refine (len_any ⟨some ⟨g1, 0, none⟩, 3, 3, some ⟨g1 + 1, 0, none⟩, 4, 4⟩ w10 (by show 3 ≤ 1000; decide) (by show 4 ≤ 1000; decide)).mono ?_
  rintro e11 w11 ⟨rfl, hb11⟩
  have HD11 : Hid (Below w3.heap.size w3 w11) := Lib.hid (HD10.out.trans (hb11.mono HD10.out.size))
  obtain ⟨_, z1, z2⟩ := HWX.out w11 HD11.out
  clear hb11
  go_wp2_with fail
  clear z1 z2
  refine (same_any ⟨some ⟨g1, 0, none⟩, 3, 3, some ⟨g1 + 1, 0, none⟩, 4, 4⟩ ⟨none, 0, 0, some ⟨w11.heap.size, 0, none⟩, 2, 2⟩ [0, 2, 0] [2, 0, 2, 0] [] [0, 2] _ ((HWX.out w11 HD11.out).1.below (below_one _ _)) (wd_one w11 [0, 2] 2 _ rfl rfl (by decide) (by decide))).mono ?_
  rintro e12 w12 ⟨he12, hb12⟩
  rw [ex_same] at he12
  subst he12
  have HD12 : Hid (Below w3.heap.size w3 w12) := Lib.hid (HD11.out.trans (((below_one w11 _).trans (hb12.mono (by simp))).mono HD11.out.size))
  obtain ⟨_, z1, z2⟩ := HWX.out w12 HD12.out
  clear hb12
  go_wp2_with fail
  clear z1 z2
  refine (shift_any ⟨some ⟨g1, 0, none⟩, 3, 3, some ⟨g1 + 1, 0, none⟩, 4, 4⟩ [0, 2, 0] [2, 0, 2, 0] 4 w12 (HWX.out w12 HD12.out).1 (by decide) (by decide)).mono ?_
  rintro e13 w13 ⟨X13, rfl, hx13, hb13, _, _⟩
  rw [ex_shift] at hx13
  have HX13 := Lib.hid hx13
  have HD13 : Hid (Below w3.heap.size w3 w13) := Lib.hid (HD12.out.trans (hb13.mono HD12.out.size))
  clear hx13 hb13
  obtain ⟨A13, n13, c13, B13, m13, d13⟩ := X13
  unfold WX.v
  dsimp only
  go_wp2_with fail
  refine (lsame_any ⟨A13, n13, c13, B13, m13, d13⟩ ⟨none, 0, 0, some ⟨w13.heap.size, 0, none⟩, 4, 4⟩ _ _ [] [0, 2, 0, 2] _ (HX13.out.below (below_one _ _)) (wd_one w13 [0, 2, 0, 2] 4 _ rfl rfl (by decide) (by decide))).mono ?_
  rintro e14 w14 ⟨he14, hb14⟩
  rw [ex_weq2] at he14
  subst he14
  have HD14 : Hid (Below w.heap.size w w14) := Lib.hid (HB3W.out.trans ((HD13.out.trans (((below_one w13 _).trans (hb14.mono (by simp))).mono HD13.out.size)).mono HB3W.out.size))
  clear hb14
  go_wp2
  go_ret
  exact ⟨rfl, HD14.out⟩
end Go.Proofs.Ytophajljjnjcdaa.wd
