/- The document's variable. -/
import Derived.Test.YtjciamefkacchaaDeclRef
import Derived.Deep.RegionHeld3
namespace Go.Proofs.Ytjciamefkacchaa.dcl
open Go.ChangeShapes Go.WideShapes Go.ChangeAt Go.RowKit Go.Proofs.Ytjciamefkacchaa.lx

theorem namedB_zero (s : List ScR) : namedB s 0 = true := decide_eq_true (.inl rfl)
theorem namedB_no {s : List ScR} {k : Int} (h : k ≠ 0) (hs : sizeF s k = 0) : namedB s k = false := decide_eq_false (by rw [hs]; omega)
theorem namedB_yes {s : List ScR} {k : Int} (hs : sizeF s k ≠ 0) : namedB s k = true := decide_eq_true (.inr (by have := sizeF_range s k; omega))

set_option maxRecDepth 20000 in
set_option maxHeartbeats 8000000 in
theorem refVariable_any (X : SX) (s : List ScR) (x : VarR) (w : World) (h : SL w X s) : Calls Try.prog 71 #[x.v, X.v] w fun e w' => e = .returned (.int .i64 (whyV s x)) ∧ Below w.heap.size w w' := by
  obtain ⟨nm, sc, over, lo, hi, init⟩ := x
  have HS := Lib.hid h
  clear h
  unfold VarR.v SX.v
  obtain ⟨q1, H1⟩ : ∃ q, Hid (sizeF s sc = q) := ⟨_, Lib.hid rfl⟩
  obtain ⟨q2, H2⟩ : ∃ q, Hid (sizeF s over = q) := ⟨_, Lib.hid rfl⟩
  obtain ⟨b3, H3⟩ : ∃ b, Hid (rangeB lo hi = b) := ⟨_, Lib.hid rfl⟩
  by_cases hs : sc = 0
  · subst hs
    by_cases ho : over = 0
    · subst ho
      have HV : Hid (whyV s ⟨nm, 0, 0, lo, hi, init⟩ = if b3 = false ∨ init < lo ∨ hi < init then 10 else 0) := Lib.hid (by unfold whyV; rw [if_neg (by simp only [namedB_zero, namedB_zero]; simp), show boundsF s ⟨nm, 0, 0, lo, hi, init⟩ = (lo, hi) from rfl]; simp only [H3.out])
      cases b3 with
      | false =>
        have HE : Hid (whyV s ⟨nm, 0, 0, lo, hi, init⟩ = 10) := Lib.hid (by rw [HV.out]; simp)
        rw [HE.out]
        go_enter Try.func71, Try.ntmps71
        go_wp2_with fail
        refine (refSpan_any _ _ _).mono ?_
        rw [H3.out]
        rintro e w' ⟨rfl, rfl⟩
        go_wp2
        go_ret
        exact ⟨rfl, below_alloc1 _ _⟩
      | true =>
        by_cases h4 : init < lo
        · have HE : Hid (whyV s ⟨nm, 0, 0, lo, hi, init⟩ = 10) := Lib.hid (by rw [HV.out]; simp [h4])
          rw [HE.out]
          go_enter Try.func71, Try.ntmps71
          go_wp2_with fail
          refine (refSpan_any _ _ _).mono ?_
          rw [H3.out]
          rintro e w' ⟨rfl, rfl⟩
          go_wp2
          go_ret
          exact ⟨rfl, below_alloc1 _ _⟩
        · by_cases h5 : hi < init
          · have HE : Hid (whyV s ⟨nm, 0, 0, lo, hi, init⟩ = 10) := Lib.hid (by rw [HV.out]; simp [h5])
            rw [HE.out]
            go_enter Try.func71, Try.ntmps71
            go_wp2_with fail
            refine (refSpan_any _ _ _).mono ?_
            rw [H3.out]
            rintro e w' ⟨rfl, rfl⟩
            go_wp2
            go_ret
            exact ⟨rfl, below_alloc1 _ _⟩
          · have HE : Hid (whyV s ⟨nm, 0, 0, lo, hi, init⟩ = 0) := Lib.hid (by rw [HV.out]; simp [h4, h5])
            rw [HE.out]
            go_enter Try.func71, Try.ntmps71
            go_wp2_with fail
            refine (refSpan_any _ _ _).mono ?_
            rw [H3.out]
            rintro e w' ⟨rfl, rfl⟩
            go_wp2
            go_quiet (fail)
            go_wp2
            go_ret
            exact ⟨rfl, below_drewN (below_alloc1 _ _) _⟩
    · have ho1 : (over != 0) = true := by simpa using ho
      by_cases hq2 : q2 = 0
      · subst hq2
        have HE : Hid (whyV s ⟨nm, 0, over, lo, hi, init⟩ = 8) := Lib.hid (by unfold whyV; rw [if_pos (.inr (namedB_no ho H2.out))])
        rw [HE.out]
        go_enter Try.func71, Try.ntmps71
        go_wp2_with fail
        refine (refSize_any over X.A X.m X.c s _ HS.out.m HS.out.small (HS.out.ds.below (below_alloc1 _ _))).mono ?_
        rw [H2.out]
        rintro e w' ⟨rfl, rfl⟩
        go_wp2
        go_ret
        exact ⟨rfl, below_alloc1 _ _⟩
      · have hq3 : (q2 == 0) = false := by simpa using hq2
        have HO : Hid (namedB s over = true) := Lib.hid (namedB_yes (by rw [H2.out]; exact hq2))
        have HV : Hid (whyV s ⟨nm, 0, over, lo, hi, init⟩ = if b3 = false ∨ init < lo ∨ hi < init then 10 else 0) := Lib.hid (by unfold whyV; rw [if_neg (by simp only [namedB_zero, HO.out]; simp), show boundsF s ⟨nm, 0, over, lo, hi, init⟩ = (lo, hi) from rfl]; simp only [H3.out])
        cases b3 with
        | false =>
          have HE : Hid (whyV s ⟨nm, 0, over, lo, hi, init⟩ = 10) := Lib.hid (by rw [HV.out]; simp)
          rw [HE.out]
          go_enter Try.func71, Try.ntmps71
          go_wp2_with fail
          refine (refSize_any over X.A X.m X.c s _ HS.out.m HS.out.small (HS.out.ds.below (below_alloc1 _ _))).mono ?_
          rw [H2.out]
          rintro e w' ⟨rfl, rfl⟩
          go_wp2_with fail
          refine (refSpan_any _ _ _).mono ?_
          rw [H3.out]
          rintro e w' ⟨rfl, rfl⟩
          go_wp2
          go_ret
          exact ⟨rfl, below_alloc1 _ _⟩
        | true =>
          by_cases h4 : init < lo
          · have HE : Hid (whyV s ⟨nm, 0, over, lo, hi, init⟩ = 10) := Lib.hid (by rw [HV.out]; simp [h4])
            rw [HE.out]
            go_enter Try.func71, Try.ntmps71
            go_wp2_with fail
            refine (refSize_any over X.A X.m X.c s _ HS.out.m HS.out.small (HS.out.ds.below (below_alloc1 _ _))).mono ?_
            rw [H2.out]
            rintro e w' ⟨rfl, rfl⟩
            go_wp2_with fail
            refine (refSpan_any _ _ _).mono ?_
            rw [H3.out]
            rintro e w' ⟨rfl, rfl⟩
            go_wp2
            go_ret
            exact ⟨rfl, below_alloc1 _ _⟩
          · by_cases h5 : hi < init
            · have HE : Hid (whyV s ⟨nm, 0, over, lo, hi, init⟩ = 10) := Lib.hid (by rw [HV.out]; simp [h5])
              rw [HE.out]
              go_enter Try.func71, Try.ntmps71
              go_wp2_with fail
              refine (refSize_any over X.A X.m X.c s _ HS.out.m HS.out.small (HS.out.ds.below (below_alloc1 _ _))).mono ?_
              rw [H2.out]
              rintro e w' ⟨rfl, rfl⟩
              go_wp2_with fail
              refine (refSpan_any _ _ _).mono ?_
              rw [H3.out]
              rintro e w' ⟨rfl, rfl⟩
              go_wp2
              go_ret
              exact ⟨rfl, below_alloc1 _ _⟩
            · have HE : Hid (whyV s ⟨nm, 0, over, lo, hi, init⟩ = 0) := Lib.hid (by rw [HV.out]; simp [h4, h5])
              rw [HE.out]
              go_enter Try.func71, Try.ntmps71
              go_wp2_with fail
              refine (refSize_any over X.A X.m X.c s _ HS.out.m HS.out.small (HS.out.ds.below (below_alloc1 _ _))).mono ?_
              rw [H2.out]
              rintro e w' ⟨rfl, rfl⟩
              go_wp2_with fail
              refine (refSpan_any _ _ _).mono ?_
              rw [H3.out]
              rintro e w' ⟨rfl, rfl⟩
              go_wp2
              go_quiet (fail)
              go_wp2
              go_ret
              exact ⟨rfl, below_drewN (below_alloc1 _ _) _⟩
  · have hs1 : (sc != 0) = true := by simpa using hs
    have hs2 : (sc == 0) = false := by simpa using hs
    by_cases hq1 : q1 = 0
    · subst hq1
      have HE : Hid (whyV s ⟨nm, sc, over, lo, hi, init⟩ = 8) := Lib.hid (by unfold whyV; rw [if_pos (.inl (namedB_no hs H1.out))])
      rw [HE.out]
      go_enter Try.func71, Try.ntmps71
      go_wp2_with fail
      refine (refSize_any sc X.A X.m X.c s _ HS.out.m HS.out.small (HS.out.ds.below (below_alloc1 _ _))).mono ?_
      rw [H1.out]
      rintro e w' ⟨rfl, rfl⟩
      go_wp2
      go_ret
      exact ⟨rfl, below_alloc1 _ _⟩
    · have hq4 : (q1 == 0) = false := by simpa using hq1
      have HN : Hid (namedB s sc = true) := Lib.hid (namedB_yes (by rw [H1.out]; exact hq1))
      have HR1 : Hid (rangeB 0 q1 = true) := Lib.hid (by have := sizeF_range s sc; rw [H1.out] at this; exact decide_eq_true (by omega))
      by_cases ho : over = 0
      · subst ho
        have HV : Hid (whyV s ⟨nm, sc, 0, lo, hi, init⟩ = if init < 0 ∨ q1 < init then 10 else 0) := Lib.hid (by unfold whyV; rw [if_neg (by simp only [HN.out, namedB_zero]; simp), show boundsF s ⟨nm, sc, 0, lo, hi, init⟩ = (0, q1) from (if_neg hs).trans (by rw [H1.out])]; simp only [show rangeB 0 q1 = true from HR1.out, Bool.true_eq_false, false_or])
        by_cases h4 : init < 0
        · have HE : Hid (whyV s ⟨nm, sc, 0, lo, hi, init⟩ = 10) := Lib.hid (by rw [HV.out]; simp [h4])
          have h4t : decide (init < 0) = true := decide_eq_true h4
          rw [HE.out]
          go_enter Try.func71, Try.ntmps71
          go_wp2_with fail
          refine (refSize_any sc X.A X.m X.c s _ HS.out.m HS.out.small (HS.out.ds.below (below_alloc1 _ _))).mono ?_
          rw [H1.out]
          rintro e w' ⟨rfl, rfl⟩
          go_wp2
          go_quiet (fail)
          go_wp2
          go_ret
          exact ⟨rfl, below_drewN (below_alloc1 _ _) _⟩
        · have h4f : decide (init < 0) = false := decide_eq_false h4
          by_cases h5 : q1 < init
          · have HE : Hid (whyV s ⟨nm, sc, 0, lo, hi, init⟩ = 10) := Lib.hid (by rw [HV.out]; simp [h5])
            rw [HE.out]
            go_enter Try.func71, Try.ntmps71
            go_wp2_with fail
            refine (refSize_any sc X.A X.m X.c s _ HS.out.m HS.out.small (HS.out.ds.below (below_alloc1 _ _))).mono ?_
            rw [H1.out]
            rintro e w' ⟨rfl, rfl⟩
            go_wp2
            go_region_held3 (fun w' => w'.cell? ⟨w.heap.size, 1, none⟩ = some (.int .i64 sc) ∧ w'.cell? ⟨w.heap.size, 5, none⟩ = some (.int .i64 init)) (first | exact ⟨World.cell?_alloc_at _ _ _ _ rfl, World.cell?_alloc_at _ _ _ _ rfl⟩ | go_keep) ((go_at_call 75; refine (refSize_any sc X.A X.m X.c s _ HS.out.m HS.out.small (HS.out.ds.below (by first | exact below_drewN (below_alloc1 _ _) 1 | exact (below_alloc1 _ _).drew | exact below_alloc1 _ _))).mono ?_; rw [H1.out]; rintro e w' ⟨rfl, rfl⟩))
            go_wp2
            go_ret
            exact ⟨rfl, (below_alloc1 _ _).drew⟩
          · have HE : Hid (whyV s ⟨nm, sc, 0, lo, hi, init⟩ = 0) := Lib.hid (by rw [HV.out]; simp [h4, h5])
            rw [HE.out]
            go_enter Try.func71, Try.ntmps71
            go_wp2_with fail
            refine (refSize_any sc X.A X.m X.c s _ HS.out.m HS.out.small (HS.out.ds.below (below_alloc1 _ _))).mono ?_
            rw [H1.out]
            rintro e w' ⟨rfl, rfl⟩
            go_wp2
            go_region_held3 (fun w' => w'.cell? ⟨w.heap.size, 1, none⟩ = some (.int .i64 sc) ∧ w'.cell? ⟨w.heap.size, 5, none⟩ = some (.int .i64 init)) (first | exact ⟨World.cell?_alloc_at _ _ _ _ rfl, World.cell?_alloc_at _ _ _ _ rfl⟩ | go_keep) ((go_at_call 75; refine (refSize_any sc X.A X.m X.c s _ HS.out.m HS.out.small (HS.out.ds.below (by first | exact below_drewN (below_alloc1 _ _) 1 | exact (below_alloc1 _ _).drew | exact below_alloc1 _ _))).mono ?_; rw [H1.out]; rintro e w' ⟨rfl, rfl⟩))
            go_wp2
            go_ret
            exact ⟨rfl, (below_alloc1 _ _).drew⟩
      · have ho1 : (over != 0) = true := by simpa using ho
        by_cases hq2 : q2 = 0
        · subst hq2
          have HE : Hid (whyV s ⟨nm, sc, over, lo, hi, init⟩ = 8) := Lib.hid (by unfold whyV; rw [if_pos (.inr (namedB_no ho H2.out))])
          rw [HE.out]
          go_enter Try.func71, Try.ntmps71
          go_wp2_with fail
          refine (refSize_any sc X.A X.m X.c s _ HS.out.m HS.out.small (HS.out.ds.below (below_alloc1 _ _))).mono ?_
          rw [H1.out]
          rintro e w' ⟨rfl, rfl⟩
          go_wp2_with fail
          refine (refSize_any over X.A X.m X.c s _ HS.out.m HS.out.small (HS.out.ds.below (below_alloc1 _ _))).mono ?_
          rw [H2.out]
          rintro e w' ⟨rfl, rfl⟩
          go_wp2
          go_ret
          exact ⟨rfl, below_alloc1 _ _⟩
        · have hq3 : (q2 == 0) = false := by simpa using hq2
          have HO : Hid (namedB s over = true) := Lib.hid (namedB_yes (by rw [H2.out]; exact hq2))
          have HV : Hid (whyV s ⟨nm, sc, over, lo, hi, init⟩ = if init < 0 ∨ q1 < init then 10 else 0) := Lib.hid (by unfold whyV; rw [if_neg (by simp only [HN.out, HO.out]; simp), show boundsF s ⟨nm, sc, over, lo, hi, init⟩ = (0, q1) from (if_neg hs).trans (by rw [H1.out])]; simp only [show rangeB 0 q1 = true from HR1.out, Bool.true_eq_false, false_or])
          by_cases h4 : init < 0
          · have HE : Hid (whyV s ⟨nm, sc, over, lo, hi, init⟩ = 10) := Lib.hid (by rw [HV.out]; simp [h4])
            have h4t : decide (init < 0) = true := decide_eq_true h4
            rw [HE.out]
            go_enter Try.func71, Try.ntmps71
            go_wp2_with fail
            refine (refSize_any sc X.A X.m X.c s _ HS.out.m HS.out.small (HS.out.ds.below (below_alloc1 _ _))).mono ?_
            rw [H1.out]
            rintro e w' ⟨rfl, rfl⟩
            go_wp2_with fail
            refine (refSize_any over X.A X.m X.c s _ HS.out.m HS.out.small (HS.out.ds.below (below_alloc1 _ _))).mono ?_
            rw [H2.out]
            rintro e w' ⟨rfl, rfl⟩
            go_wp2
            go_quiet (fail)
            go_wp2
            go_ret
            exact ⟨rfl, below_drewN (below_alloc1 _ _) _⟩
          · have h4f : decide (init < 0) = false := decide_eq_false h4
            by_cases h5 : q1 < init
            · have HE : Hid (whyV s ⟨nm, sc, over, lo, hi, init⟩ = 10) := Lib.hid (by rw [HV.out]; simp [h5])
              rw [HE.out]
              go_enter Try.func71, Try.ntmps71
              go_wp2_with fail
              refine (refSize_any sc X.A X.m X.c s _ HS.out.m HS.out.small (HS.out.ds.below (below_alloc1 _ _))).mono ?_
              rw [H1.out]
              rintro e w' ⟨rfl, rfl⟩
              go_wp2_with fail
              refine (refSize_any over X.A X.m X.c s _ HS.out.m HS.out.small (HS.out.ds.below (below_alloc1 _ _))).mono ?_
              rw [H2.out]
              rintro e w' ⟨rfl, rfl⟩
              go_wp2
              go_region_held3 (fun w' => w'.cell? ⟨w.heap.size, 1, none⟩ = some (.int .i64 sc) ∧ w'.cell? ⟨w.heap.size, 5, none⟩ = some (.int .i64 init)) (first | exact ⟨World.cell?_alloc_at _ _ _ _ rfl, World.cell?_alloc_at _ _ _ _ rfl⟩ | go_keep) ((go_at_call 75; refine (refSize_any sc X.A X.m X.c s _ HS.out.m HS.out.small (HS.out.ds.below (by first | exact below_drewN (below_alloc1 _ _) 1 | exact (below_alloc1 _ _).drew | exact below_alloc1 _ _))).mono ?_; rw [H1.out]; rintro e w' ⟨rfl, rfl⟩))
              go_wp2
              go_ret
              exact ⟨rfl, (below_alloc1 _ _).drew⟩
            · have HE : Hid (whyV s ⟨nm, sc, over, lo, hi, init⟩ = 0) := Lib.hid (by rw [HV.out]; simp [h4, h5])
              rw [HE.out]
              go_enter Try.func71, Try.ntmps71
              go_wp2_with fail
              refine (refSize_any sc X.A X.m X.c s _ HS.out.m HS.out.small (HS.out.ds.below (below_alloc1 _ _))).mono ?_
              rw [H1.out]
              rintro e w' ⟨rfl, rfl⟩
              go_wp2_with fail
              refine (refSize_any over X.A X.m X.c s _ HS.out.m HS.out.small (HS.out.ds.below (below_alloc1 _ _))).mono ?_
              rw [H2.out]
              rintro e w' ⟨rfl, rfl⟩
              go_wp2
              go_region_held3 (fun w' => w'.cell? ⟨w.heap.size, 1, none⟩ = some (.int .i64 sc) ∧ w'.cell? ⟨w.heap.size, 5, none⟩ = some (.int .i64 init)) (first | exact ⟨World.cell?_alloc_at _ _ _ _ rfl, World.cell?_alloc_at _ _ _ _ rfl⟩ | go_keep) ((go_at_call 75; refine (refSize_any sc X.A X.m X.c s _ HS.out.m HS.out.small (HS.out.ds.below (by first | exact below_drewN (below_alloc1 _ _) 1 | exact (below_alloc1 _ _).drew | exact below_alloc1 _ _))).mono ?_; rw [H1.out]; rintro e w' ⟨rfl, rfl⟩))
              go_wp2
              go_ret
              exact ⟨rfl, (below_alloc1 _ _).drew⟩
end Go.Proofs.Ytjciamefkacchaa.dcl
