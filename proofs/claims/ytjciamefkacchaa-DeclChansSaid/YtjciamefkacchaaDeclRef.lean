/- The document's sizes, bounds, cells, ranges. -/
import Derived.Test.YtjciamefkacchaaDeclWrong
namespace Go.Proofs.Ytjciamefkacchaa.dcl
open Go.ChangeShapes Go.WideShapes Go.ChangeAt Go.RowKit Go.Proofs.Ytjciamefkacchaa.lx

set_option maxRecDepth 20000 in
set_option maxHeartbeats 1000000 in
theorem refSize_any (k : Int) (A : Option Addr) (m c : Nat) (l : List ScR) (w : World) (hm : m = l.length) (hmm : m ≤ 1000000000000000) (hA : DS w A l) :
    Calls Try.prog 75 #[.slice A m c, .int .i64 k] w fun e w' => e = .returned (.int .i64 (sizeF l k)) ∧ w = w' := by
  by_cases h1 : k < 1
  · have HE : Hid (sizeF l k = 0) := Lib.hid (if_neg (by omega))
    rw [HE.out]
    go_enter Try.func75, Try.ntmps75
    go_wp2
    go_ret
    exact ⟨rfl, rfl⟩
  · by_cases h2 : (m : Int) < k
    · have HE : Hid (sizeF l k = 0) := Lib.hid (if_neg (by omega))
      rw [HE.out]
      go_enter Try.func75, Try.ntmps75
      go_wp2
      go_ret
      exact ⟨rfl, rfl⟩
    · obtain ⟨j, rfl⟩ : ∃ j : Nat, k = (j : Int) + 1 := ⟨(k - 1).toNat, by omega⟩
      have hj : j < m := by omega
      obtain ⟨b, o, rfl, hb, hc⟩ := hA (by omega)
      have c1 := (hc j (by omega)).2
      obtain ⟨x, HX⟩ : ∃ x, Hid ((l.getD j default).size = x) := ⟨_, Lib.hid rfl⟩
      rw [HX.out] at c1
      have q1 : IntKind.i64.wrap ((j : Int) + 1 - 1) = (j : Int) := (IntWalk.i64_in _ (by omega)).trans (by omega)
      have hjt : ((j : Int) + 1 - 1).toNat = j := by omega
      by_cases hf : fitB x 1 4 = true
      · have HE : Hid (sizeF l ((j : Int) + 1) = x) := Lib.hid ((if_pos (by rw [hjt, HX.out, hf]; exact ⟨by omega, by omega, rfl⟩)).trans (by rw [hjt, HX.out]))
        rw [HE.out]
        have hx1 : ¬ x < 1 := by have := of_decide_eq_true hf; omega
        have hx2 : ¬ 4 < x := by have := of_decide_eq_true hf; omega
        clear hf hc hA hm hjt
        go_enter Try.func75, Try.ntmps75
        go_wp2
        go_ret
        exact ⟨rfl, rfl⟩
      · have HE : Hid (sizeF l ((j : Int) + 1) = 0) := Lib.hid (if_neg (by rw [hjt, HX.out]; intro h; exact hf h.2.2))
        rw [HE.out]
        have hx : x < 1 ∨ 4 < x := by
          have h2 : ¬ (1 ≤ x ∧ x ≤ 4) := fun h => hf (decide_eq_true h)
          omega
        clear hf hc hA hm hjt
        by_cases hx1 : x < 1
        · clear hx
          go_enter Try.func75, Try.ntmps75
          go_wp2
          go_ret
          exact ⟨rfl, rfl⟩
        · have hx2 : 4 < x := by omega
          clear hx
          go_enter Try.func75, Try.ntmps75
          go_wp2
          go_ret
          exact ⟨rfl, rfl⟩
set_option maxHeartbeats 1000000 in
theorem refBounds_any (X : SX) (s : List ScR) (x : VarR) (w : World) (h : SL w X s) : Calls Try.prog 35 #[x.v, X.v] w fun e w' => e = .returned (.tuple #[.int .i64 (boundsF s x).1, .int .i64 (boundsF s x).2]) ∧ Below w.heap.size w w' := by
  obtain ⟨nm, sc, over, lo, hi, init⟩ := x
  have HS := Lib.hid h
  clear h
  unfold VarR.v SX.v
  by_cases h0 : sc = 0
  · subst h0
    have HE : Hid (boundsF s ⟨nm, 0, over, lo, hi, init⟩ = (lo, hi)) := Lib.hid rfl
    rw [HE.out]
    go_enter Try.func35, Try.ntmps35
    go_upto_region 2 with (fail)
    go_quiet (fail)
    go_wp2
    go_ret2
    exact ⟨rfl, below_drewN (below_alloc1 _ _) _⟩
  · have h00 : (sc == 0) = false := by simpa using h0
    obtain ⟨q, HQ⟩ : ∃ q, Hid (sizeF s sc = q) := ⟨_, Lib.hid rfl⟩
    have HE : Hid (boundsF s ⟨nm, sc, over, lo, hi, init⟩ = (0, q)) := Lib.hid (by unfold boundsF; rw [← HQ.out]; exact if_neg h0)
    rw [HE.out]
    go_enter Try.func35, Try.ntmps35
    go_wp2_with fail
    refine (refSize_any sc X.A X.m X.c s _ HS.out.m HS.out.small (HS.out.ds.below (below_alloc1 _ _))).mono ?_
    rw [HQ.out]
    rintro e w' ⟨rfl, rfl⟩
    go_wp2
    go_ret2
    exact ⟨rfl, below_alloc1 _ _⟩
theorem refCells_any (X : SX) (s : List ScR) (x : VarR) (w : World) (h : SL w X s) : Calls Try.prog 37 #[x.v, X.v] w fun e w' => e = .returned (.int .i64 (cellsF s x)) ∧ Below w.heap.size w w' := by
  obtain ⟨nm, sc, over, lo, hi, init⟩ := x
  have HS := Lib.hid h
  clear h
  unfold VarR.v SX.v
  by_cases h0 : over = 0
  · subst h0
    have HE : Hid (cellsF s ⟨nm, sc, 0, lo, hi, init⟩ = 1) := Lib.hid rfl
    rw [HE.out]
    go_enter Try.func37, Try.ntmps37
    go_wp2
    go_ret
    exact ⟨rfl, below_alloc1 _ _⟩
  · have h00 : (over == 0) = false := by simpa using h0
    obtain ⟨q, HQ⟩ : ∃ q, Hid (sizeF s over = q) := ⟨_, Lib.hid rfl⟩
    have HE : Hid (cellsF s ⟨nm, sc, over, lo, hi, init⟩ = q) := Lib.hid (by unfold cellsF; rw [← HQ.out]; exact if_neg h0)
    rw [HE.out]
    go_enter Try.func37, Try.ntmps37
    go_wp2_with fail
    refine (refSize_any over X.A X.m X.c s _ HS.out.m HS.out.small (HS.out.ds.below (below_alloc1 _ _))).mono ?_
    rw [HQ.out]
    rintro e w' ⟨rfl, rfl⟩
    go_wp2
    go_ret
    exact ⟨rfl, below_alloc1 _ _⟩
theorem refSpan_any (lo hi : Int) (w : World) : Calls Try.prog 76 #[.int .i64 lo, .int .i64 hi] w fun e w' => e = .returned (.bool (rangeB lo hi)) ∧ w = w' := by
  by_cases h1 : -1048576 ≤ lo
  · by_cases h2 : lo ≤ hi
    · by_cases h3 : hi ≤ 1048576
      · have q1 : IntKind.i64.wrap (hi - lo) = hi - lo := IntWalk.i64_in _ (by omega)
        by_cases h4 : hi - lo < 256
        · have HE : Hid (rangeB lo hi = true) := Lib.hid (decide_eq_true ⟨h1, h2, h3, h4⟩)
          go_enter Try.func76, Try.ntmps76
          go_wp2
          go_ret
          exact ⟨by rw [HE.out]; rfl, rfl⟩
        · have HE : Hid (rangeB lo hi = false) := Lib.hid (decide_eq_false (by omega))
          go_enter Try.func76, Try.ntmps76
          go_wp2
          go_ret
          exact ⟨by rw [HE.out]; rfl, rfl⟩
      · have HE : Hid (rangeB lo hi = false) := Lib.hid (decide_eq_false (by omega))
        go_enter Try.func76, Try.ntmps76
        go_wp2
        go_ret
        exact ⟨by rw [HE.out]; rfl, rfl⟩
    · have HE : Hid (rangeB lo hi = false) := Lib.hid (decide_eq_false (by omega))
      go_enter Try.func76, Try.ntmps76
      go_wp2
      go_ret
      exact ⟨by rw [HE.out]; rfl, rfl⟩
  · have HE : Hid (rangeB lo hi = false) := Lib.hid (decide_eq_false (by omega))
    go_enter Try.func76, Try.ntmps76
    go_wp2
    go_ret
    exact ⟨by rw [HE.out]; rfl, rfl⟩
end Go.Proofs.Ytjciamefkacchaa.dcl
