/- The document's kinds of nodes that take nothing. -/
import Derived.Test.YtjciamefkacchaaExprRefOne
import Derived.Test.YtjciamefkacchaaExprRefChan
namespace Go.Proofs.Ytjciamefkacchaa
open Go.ChangeShapes Go.WideShapes Go.ChangeAt Go.RowKit

theorem plainK_none {nsc : Nat} {l : List (Int × Int)} {n : Int} (h : varK nsc l n = none) : plainK nsc l n = (0, 8) := by unfold plainK; rw [h]
theorem plainK_some {nsc : Nat} {l : List (Int × Int)} {n x y : Int} (h : varK nsc l n = some (x, y)) : plainK nsc l n = hadF (kindOf x) (kindOf y == 0) 9 := by unfold plainK; rw [h]

set_option maxRecDepth 20000 in
set_option maxHeartbeats 4000000 in
theorem refLeaf_num (X : ScX) (S : Sc) (n : Int) (ps : List Int) (w : World) (h : SR w X S) : Calls Try.prog 44 #[.agg #[.int .i64 1, .int .i64 n], X.v] w (PairP w (nodeK S (1, n) ps)) := by
  clear h
  by_cases h1 : n < -1048576
  · have HP : Hid (nodeK S (1, n) ps = (0, 10)) := Lib.hid (by show ((0 : Int), (hadF n (fitB n (-1048576) 1048576) 10).2) = _; rw [show fitB n (-1048576) 1048576 = false from decide_eq_false (by omega)]; rfl)
    rw [HP.out]
    unfold ScX.v
    go_enter Try.func44, Try.ntmps44
    go_wp2
    go_ret2
    exact ⟨rfl, belowN2 _ _ _⟩
  · by_cases h2 : 1048576 < n
    · have HP : Hid (nodeK S (1, n) ps = (0, 10)) := Lib.hid (by show ((0 : Int), (hadF n (fitB n (-1048576) 1048576) 10).2) = _; rw [show fitB n (-1048576) 1048576 = false from decide_eq_false (by omega)]; rfl)
      rw [HP.out]
      unfold ScX.v
      go_enter Try.func44, Try.ntmps44
      go_wp2
      go_ret2
      exact ⟨rfl, belowN2 _ _ _⟩
    · have HP : Hid (nodeK S (1, n) ps = (0, 0)) := Lib.hid (by show ((0 : Int), (hadF n (fitB n (-1048576) 1048576) 10).2) = _; rw [show fitB n (-1048576) 1048576 = true from decide_eq_true (by omega)]; rfl)
      rw [HP.out]
      unfold ScX.v
      go_enter Try.func44, Try.ntmps44
      go_wp2
      go_ret2
      exact ⟨rfl, belowN2 _ _ _⟩

set_option maxRecDepth 20000 in
set_option maxHeartbeats 4000000 in
theorem refLeaf_var (X : ScX) (S : Sc) (op n : Int) (ps : List Int) (w : World) (h : SR w X S) (hop : op = 2 ∨ op = 4) : Calls Try.prog 44 #[.agg #[.int .i64 op, .int .i64 n], X.v] w (PairP w (nodeK S (op, n) ps)) := by
  have HS := Lib.hid h
  have hn1 := h.small
  clear h
  rcases hop with rfl | rfl
  · have HP : Hid (nodeK S (2, n) ps = plainK X.n1 S.vars n) := Lib.hid (by rw [HS.out.l1]; rfl)
    rw [HP.out]
    cases hv : varK X.n1 S.vars n with
    | none =>
      have HE := Lib.hid (plainK_none hv)
      rw [HE.out]
      have HV := Lib.hid hv
      clear hv
      unfold ScX.v
      go_enter Try.func44, Try.ntmps44
      go_wp2_with fail
      refine (refVariable_no X X.a2 X.n2 X.c2 S.vars n _ HS.out.l2 (HS.out.r2.below (belowN2 _ _ _)) HV.out).mono ?_
      rintro e w1 ⟨rfl, hb1⟩
      have HB1 : Hid (Below w.heap.size w w1) := Lib.hid (bthen (belowN2 _ _ _) hb1)
      clear hb1
      go_wp2
      go_ret2
      exact ⟨rfl, bthen HB1.out (below_alloc1 _ _)⟩
    | some xy =>
      obtain ⟨x, y⟩ := xy
      obtain ⟨k0, e1, e2, e3, x1, x2, y1, y2⟩ := varK_some hv
      clear e1 e2 e3
      have HPK := Lib.hid (plainK_some hv)
      rw [HPK.out]
      have HV := Lib.hid hv
      clear hv
      by_cases hy : y = 0
      · subst hy
        have HE : Hid (hadF (kindOf x) (kindOf 0 == 0) 9 = (kindOf x, 0)) := Lib.hid (by simp [kindOf, hadF])
        rw [HE.out]
        unfold ScX.v
        go_enter Try.func44, Try.ntmps44
        go_wp2_with fail
        refine (refVariable_some X X.a2 X.n2 X.c2 S.vars n x 0 _ HS.out.l2 (HS.out.r2.below (belowN2 _ _ _)) HV.out).mono ?_
        rintro e w1 ⟨⟨s0, p, q, r, rfl⟩, hb1⟩
        have HB1 : Hid (Below w.heap.size w w1) := Lib.hid (bthen (belowN2 _ _ _) hb1)
        clear hb1
        go_wp2_with fail
        refine (refKindOf_any x _ x1 (by omega)).mono ?_
        rintro e w' ⟨rfl, rfl⟩
        go_wp2
        go_ret2
        exact ⟨rfl, bthen HB1.out (below_alloc1 _ _)⟩
      · have hy0 : (y != 0) = true := by simpa using hy
        have HE : Hid (hadF (kindOf x) (kindOf y == 0) 9 = (0, 9)) := Lib.hid (by
          rw [show kindOf y = 1 + y from if_neg hy]
          have h1 : (1 + y == 0) = false := by simp; omega
          rw [h1]
          rfl)
        rw [HE.out]
        unfold ScX.v
        go_enter Try.func44, Try.ntmps44
        go_wp2_with fail
        refine (refVariable_some X X.a2 X.n2 X.c2 S.vars n x y _ HS.out.l2 (HS.out.r2.below (belowN2 _ _ _)) HV.out).mono ?_
        rintro e w1 ⟨⟨s0, p, q, r, rfl⟩, hb1⟩
        have HB1 : Hid (Below w.heap.size w w1) := Lib.hid (bthen (belowN2 _ _ _) hb1)
        clear hb1
        go_wp2
        go_ret2
        exact ⟨rfl, bthen HB1.out (below_alloc1 _ _)⟩
  · have HP : Hid (nodeK S (4, n) ps = plainK X.n1 S.locals n) := Lib.hid (by rw [HS.out.l1]; rfl)
    rw [HP.out]
    cases hv : varK X.n1 S.locals n with
    | none =>
      have HE := Lib.hid (plainK_none hv)
      rw [HE.out]
      have HV := Lib.hid hv
      clear hv
      unfold ScX.v
      go_enter Try.func44, Try.ntmps44
      go_wp2_with fail
      refine (refVariable_no X X.a5 X.n5 X.c5 S.locals n _ HS.out.l5 (HS.out.r5.below (belowN2 _ _ _)) HV.out).mono ?_
      rintro e w1 ⟨rfl, hb1⟩
      have HB1 : Hid (Below w.heap.size w w1) := Lib.hid (bthen (belowN2 _ _ _) hb1)
      clear hb1
      go_wp2
      go_ret2
      exact ⟨rfl, bthen HB1.out (below_alloc1 _ _)⟩
    | some xy =>
      obtain ⟨x, y⟩ := xy
      obtain ⟨k0, e1, e2, e3, x1, x2, y1, y2⟩ := varK_some hv
      clear e1 e2 e3
      have HPK := Lib.hid (plainK_some hv)
      rw [HPK.out]
      have HV := Lib.hid hv
      clear hv
      by_cases hy : y = 0
      · subst hy
        have HE : Hid (hadF (kindOf x) (kindOf 0 == 0) 9 = (kindOf x, 0)) := Lib.hid (by simp [kindOf, hadF])
        rw [HE.out]
        unfold ScX.v
        go_enter Try.func44, Try.ntmps44
        go_wp2_with fail
        refine (refVariable_some X X.a5 X.n5 X.c5 S.locals n x 0 _ HS.out.l5 (HS.out.r5.below (belowN2 _ _ _)) HV.out).mono ?_
        rintro e w1 ⟨⟨s0, p, q, r, rfl⟩, hb1⟩
        have HB1 : Hid (Below w.heap.size w w1) := Lib.hid (bthen (belowN2 _ _ _) hb1)
        clear hb1
        go_wp2_with fail
        refine (refKindOf_any x _ x1 (by omega)).mono ?_
        rintro e w' ⟨rfl, rfl⟩
        go_wp2
        go_ret2
        exact ⟨rfl, bthen HB1.out (below_alloc1 _ _)⟩
      · have hy0 : (y != 0) = true := by simpa using hy
        have HE : Hid (hadF (kindOf x) (kindOf y == 0) 9 = (0, 9)) := Lib.hid (by
          rw [show kindOf y = 1 + y from if_neg hy]
          have h1 : (1 + y == 0) = false := by simp; omega
          rw [h1]
          rfl)
        rw [HE.out]
        unfold ScX.v
        go_enter Try.func44, Try.ntmps44
        go_wp2_with fail
        refine (refVariable_some X X.a5 X.n5 X.c5 S.locals n x y _ HS.out.l5 (HS.out.r5.below (belowN2 _ _ _)) HV.out).mono ?_
        rintro e w1 ⟨⟨s0, p, q, r, rfl⟩, hb1⟩
        have HB1 : Hid (Below w.heap.size w w1) := Lib.hid (bthen (belowN2 _ _ _) hb1)
        clear hb1
        go_wp2
        go_ret2
        exact ⟨rfl, bthen HB1.out (below_alloc1 _ _)⟩
set_option maxRecDepth 20000 in
set_option maxHeartbeats 4000000 in
theorem refLeaf_self (X : ScX) (S : Sc) (n : Int) (ps : List Int) (w : World) (h : SR w X S) : Calls Try.prog 44 #[.agg #[.int .i64 5, .int .i64 n], X.v] w (PairP w (nodeK S (5, n) ps)) := by
  have hn1 := h.small
  have HP : Hid (nodeK S (5, n) ps = if 1 ≤ X.self ∧ X.self ≤ X.n1 then (1 + X.self, 0) else (0, 8)) := Lib.hid (by rw [h.l1, h.self]; rfl)
  rw [HP.out]
  clear h
  by_cases h1 : X.self < 1
  · rw [if_neg (by omega)]
    unfold ScX.v
    go_enter Try.func44, Try.ntmps44
    go_wp2
    go_ret2
    exact ⟨rfl, belowN2 _ _ _⟩
  · by_cases h2 : (X.n1 : Int) < X.self
    · rw [if_neg (by omega)]
      unfold ScX.v
      go_enter Try.func44, Try.ntmps44
      go_wp2
      go_ret2
      exact ⟨rfl, belowN2 _ _ _⟩
    · rw [if_pos (by omega)]
      unfold ScX.v
      go_enter Try.func44, Try.ntmps44
      go_wp2
      go_ret2
      exact ⟨rfl, belowN2 _ _ _⟩
set_option maxRecDepth 20000 in
set_option maxHeartbeats 4000000 in
theorem refLeaf_none (X : ScX) (S : Sc) (n : Int) (ps : List Int) (w : World) (h : SR w X S) : Calls Try.prog 44 #[.agg #[.int .i64 8, .int .i64 n], X.v] w (PairP w (nodeK S (8, n) ps)) := by
  have hn1 := h.small
  have HP : Hid (nodeK S (8, n) ps = if 0 ≤ n ∧ n < X.n1 then (2 + n, 0) else (0, 8)) := Lib.hid (by rw [h.l1]; rfl)
  rw [HP.out]
  clear h
  by_cases h1 : n < 0
  · rw [if_neg (by omega)]
    unfold ScX.v
    go_enter Try.func44, Try.ntmps44
    go_wp2
    go_ret2
    exact ⟨rfl, belowN2 _ _ _⟩
  · by_cases h2 : (X.n1 : Int) ≤ n
    · rw [if_neg (by omega)]
      unfold ScX.v
      go_enter Try.func44, Try.ntmps44
      go_wp2
      go_ret2
      exact ⟨rfl, belowN2 _ _ _⟩
    · rw [if_pos (by omega)]
      unfold ScX.v
      go_enter Try.func44, Try.ntmps44
      go_wp2
      go_ret2
      exact ⟨rfl, belowN2 _ _ _⟩
set_option maxRecDepth 20000 in
set_option maxHeartbeats 4000000 in
theorem refLeaf_len (X : ScX) (S : Sc) (n : Int) (ps : List Int) (w : World) (h : SR w X S) : Calls Try.prog 44 #[.agg #[.int .i64 6, .int .i64 n], X.v] w (PairP w (nodeK S (6, n) ps)) := by
  have HS := Lib.hid h
  have HP : Hid (nodeK S (6, n) ps = hadF 0 (chanB X.n1 S.chans n) 8) := Lib.hid (by rw [h.l1]; rfl)
  rw [HP.out]
  clear h
  obtain ⟨bb, HB⟩ : ∃ bb, Hid (chanB X.n1 S.chans n = bb) := ⟨_, Lib.hid rfl⟩
  rw [HB.out]
  unfold ScX.v
  cases bb
  all_goals
    go_enter Try.func44, Try.ntmps44
    go_wp2_with fail
    refine (refChannel_any X S.chans n _ HS.out.l3 (HS.out.r3.below (belowN2 _ _ _))).mono ?_
    rw [HB.out]
    rintro e w1 ⟨⟨s0, p, q, r, u, t, rfl⟩, hb1⟩
    have HB1 : Hid (Below w.heap.size w w1) := Lib.hid (bthen (belowN2 _ _ _) hb1)
    clear hb1
    go_wp2
    go_ret2
    exact ⟨rfl, bthen HB1.out (below_alloc1 _ _)⟩
set_option maxRecDepth 20000 in
set_option maxHeartbeats 4000000 in
theorem refLeaf_at (X : ScX) (S : Sc) (n : Int) (ps : List Int) (w : World) (h : SR w X S) (hn : -9223372036854775808 ≤ n ∧ n ≤ 9223372036854775807) : Calls Try.prog 44 #[.agg #[.int .i64 7, .int .i64 n], X.v] w (PairP w (nodeK S (7, n) ps)) := by
  have HS := Lib.hid h
  have HP : Hid (nodeK S (7, n) ps = hadF 0 (locB S.procs n) 8) := Lib.hid rfl
  rw [HP.out]
  obtain ⟨n1, n2⟩ := hn
  by_cases h0 : n < 0
  · have HB : Hid (hadF 0 (locB S.procs n) 8 = (0, 8)) := Lib.hid (by rw [show locB S.procs n = false from decide_eq_false (by omega)]; rfl)
    rw [HB.out]
    have hd : decide (n < 0) = true := decide_eq_true h0
    clear h n1 n2
    unfold ScX.v
    go_enter Try.func44, Try.ntmps44
    go_wp2
    go_quiet (fail)
    go_wp2
    go_ret2
    exact ⟨rfl, below_drewN (belowN2 _ _ _) _⟩
  · have hd : decide (n < 0) = false := decide_eq_false h0
    obtain ⟨d, HD0⟩ : ∃ d : Nat, Hid (n / 16 = d) := ⟨(n / 16).toNat, Lib.hid (by omega)⟩
    obtain ⟨r, HR0⟩ : ∃ r : Nat, Hid (n % 16 = r) := ⟨(n % 16).toNat, Lib.hid (by omega)⟩
    have HQ0 : Hid (n.tdiv 16 = d) := Lib.hid ((Int.tdiv_eq_ediv_of_nonneg (by omega)).trans HD0.out)
    have HM0 : Hid (n.tmod 16 = r) := Lib.hid ((Int.tmod_eq_emod_of_nonneg (by omega)).trans HR0.out)
    have q5 : IntKind.i64.wrap (d : Int) = (d : Int) := IntWalk.i64_in _ (by have := HD0.out; omega)
    have q6 : IntKind.i64.wrap (r : Int) = (r : Int) := IntWalk.i64_in _ (by have := HR0.out; omega)
    by_cases hdn : X.n4 ≤ d
    · have HB : Hid (hadF 0 (locB S.procs n) 8 = (0, 8)) := Lib.hid (by
        rw [show locB S.procs n = false from decide_eq_false (by rw [HD0.out, ← HS.out.l4]; omega)]
        rfl)
      rw [HB.out]
      have g1 : decide ((X.n4 : Int) ≤ (d : Int)) = true := decide_eq_true (by omega)
      have g2 : decide (X.n4 ≤ d) = true := decide_eq_true hdn
      clear h n1 n2 h0 hdn
      unfold ScX.v
      go_enter Try.func44, Try.ntmps44
      have q1 := HD0.out
      have q2 := HR0.out
      have q3 := HQ0.out
      have q4 := HM0.out
      go_wp2
      go_quiet (fail)
      go_wp2
      go_ret2
      exact ⟨rfl, below_drewN (belowN2 _ _ _) _⟩
    · obtain ⟨b, o, ha, hb, hc⟩ := HS.out.r4 (by rw [← HS.out.l4]; omega)
      obtain ⟨s0, p, A1, A2, m1, d1, m2, d2, k0, k1, k2, k3, k4⟩ := hc d (by rw [← HS.out.l4]; omega)
      obtain ⟨x, HX⟩ : ∃ x, Hid (S.procs.getD d 0 = x) := ⟨_, Lib.hid rfl⟩
      rw [HX.out] at k2
      have HLB : Hid (locB S.procs n = decide ((r : Int) < x)) := Lib.hid (by
        unfold locB
        rw [HD0.out, HR0.out, Int.toNat_natCast, HX.out, ← HS.out.l4, Bool.eq_iff_iff, decide_eq_true_iff, decide_eq_true_iff]
        omega)
      have g1 : decide ((X.n4 : Int) ≤ (d : Int)) = false := decide_eq_false (by omega)
      have g2 : decide (X.n4 ≤ d) = false := decide_eq_false hdn
      have hdl : d < X.n4 := by omega
      have HA := Lib.hid ha
      clear h n1 n2 h0 hdn hc k0 k1 k3 k4 ha
      by_cases hr : x ≤ (r : Int)
      · have HB : Hid (hadF 0 (locB S.procs n) 8 = (0, 8)) := Lib.hid (by rw [HLB.out, decide_eq_false (by omega)]; rfl)
        rw [HB.out]
        have g3 : decide (x ≤ (r : Int)) = true := decide_eq_true hr
        clear hr
        unfold ScX.v
        go_enter Try.func44, Try.ntmps44
        have q1 := HD0.out
        have q2 := HR0.out
        have q3 := HQ0.out
        have q4 := HM0.out
        rw [HA.out] at *
        go_wp2
        go_quiet (fail)
        go_wp2
        go_ret2
        exact ⟨rfl, below_drewN (belowN2 _ _ _) _⟩
      · have HB : Hid (hadF 0 (locB S.procs n) 8 = (0, 0)) := Lib.hid (by rw [HLB.out, decide_eq_true (by omega)]; rfl)
        rw [HB.out]
        have g3 : decide (x ≤ (r : Int)) = false := decide_eq_false hr
        clear hr
        unfold ScX.v
        go_enter Try.func44, Try.ntmps44
        have q1 := HD0.out
        have q2 := HR0.out
        have q3 := HQ0.out
        have q4 := HM0.out
        rw [HA.out] at *
        go_wp2
        go_quiet (fail)
        go_wp2
        go_ret2
        exact ⟨rfl, below_drewN (belowN2 _ _ _) _⟩
theorem refLeaf_any (X : ScX) (S : Sc) (op n : Int) (ps : List Int) (w : World) (h : SR w X S) (hop : 1 ≤ op ∧ op ≤ 8 ∧ op ≠ 3) (hn : -9223372036854775808 ≤ n ∧ n ≤ 9223372036854775807) :
    Calls Try.prog 44 #[.agg #[.int .i64 op, .int .i64 n], X.v] w (PairP w (nodeK S (op, n) ps)) := by
  have hc : op = 1 ∨ (op = 2 ∨ op = 4) ∨ op = 5 ∨ op = 6 ∨ op = 7 ∨ op = 8 := by omega
  rcases hc with rfl | hc | rfl | rfl | rfl | rfl
  · exact refLeaf_num X S n ps w h
  · exact refLeaf_var X S op n ps w h hc
  · exact refLeaf_self X S n ps w h
  · exact refLeaf_len X S n ps w h
  · exact refLeaf_at X S n ps w h hn
  · exact refLeaf_none X S n ps w h
end Go.Proofs.Ytjciamefkacchaa
