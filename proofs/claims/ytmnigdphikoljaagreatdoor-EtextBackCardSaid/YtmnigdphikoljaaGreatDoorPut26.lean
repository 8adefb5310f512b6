/- Contracts that the claim stands on, several texts in one: ExprRefKLeaf, ExprRefKind. -/
import Derived.IntWalk
import Derived.Deep.RegionHeld3
import Derived.Test.YtmnigdphikoljaaGreatDoorPut1
import Derived.Test.YtmnigdphikoljaaGreatDoorPut2
import Derived.Test.YtmnigdphikoljaaGreatDoorPut3
import Derived.Test.YtmnigdphikoljaaGreatDoorPut4
import Derived.Test.YtmnigdphikoljaaGreatDoorPut5
import Derived.Test.YtmnigdphikoljaaGreatDoorPut6
import Derived.Test.YtmnigdphikoljaaGreatDoorPut7
import Derived.Test.YtmnigdphikoljaaGreatDoorPut8
import Derived.Test.YtmnigdphikoljaaGreatDoorPut9
import Derived.Test.YtmnigdphikoljaaGreatDoorPut10
import Derived.Test.YtmnigdphikoljaaGreatDoorPut11
import Derived.Test.YtmnigdphikoljaaGreatDoorPut12
import Derived.Test.YtmnigdphikoljaaGreatDoorPut13
import Derived.Test.YtmnigdphikoljaaGreatDoorPut14
import Derived.Test.YtmnigdphikoljaaGreatDoorPut15
import Derived.Test.YtmnigdphikoljaaGreatDoorPut16
import Derived.Test.YtmnigdphikoljaaGreatDoorPut17
import Derived.Test.YtmnigdphikoljaaGreatDoorPut18
import Derived.Test.YtmnigdphikoljaaGreatDoorPut19
import Derived.Test.YtmnigdphikoljaaGreatDoorPut20
import Derived.Test.YtmnigdphikoljaaGreatDoorPut21
import Derived.Test.YtmnigdphikoljaaGreatDoorPut22
import Derived.Test.YtmnigdphikoljaaGreatDoorPut23
import Derived.Test.YtmnigdphikoljaaGreatDoorPut24
import Derived.Test.YtmnigdphikoljaaGreatDoorPut25
namespace Go.Proofs.YtmnigdphikoljaaGreatDoor
open Go.ChangeShapes Go.WideShapes Go.ChangeAt Go.RowKit

theorem plainK_none {nsc : Nat} {l : List (Int × Int)} {n : Int} (h : varK nsc l n = none) : plainK nsc l n = (0, 8) := by unfold plainK; rw [h]
theorem plainK_some {nsc : Nat} {l : List (Int × Int)} {n x y : Int} (h : varK nsc l n = some (x, y)) : plainK nsc l n = hadF (kindOf x) (kindOf y == 0) 9 := by unfold plainK; rw [h]

set_option maxRecDepth 20000 in
set_option maxHeartbeats 4000000 in
theorem refLeaf_num (X : ScX) (S : Sc) (n : Int) (ps : List Int) (w : World) (h : SR w X S) : Calls Tryz.prog 34 #[.agg #[.int .i64 1, .int .i64 n], X.v] w (PairP w (nodeK S (1, n) ps)) := by
  clear h
  by_cases h1 : n < -1048576
  · have HP : Hid (nodeK S (1, n) ps = (0, 10)) := Lib.hid (by show ((0 : Int), (hadF n (fitB n (-1048576) 1048576) 10).2) = _; rw [show fitB n (-1048576) 1048576 = false from decide_eq_false (by omega)]; rfl)
    rw [HP.out]
    unfold ScX.v
    go_enter Tryz.func34, Tryz.ntmps34
    go_wp2
    go_ret2
    exact ⟨rfl, belowN2 _ _ _⟩
  · by_cases h2 : 1048576 < n
    · have HP : Hid (nodeK S (1, n) ps = (0, 10)) := Lib.hid (by show ((0 : Int), (hadF n (fitB n (-1048576) 1048576) 10).2) = _; rw [show fitB n (-1048576) 1048576 = false from decide_eq_false (by omega)]; rfl)
      rw [HP.out]
      unfold ScX.v
      go_enter Tryz.func34, Tryz.ntmps34
      go_wp2
      go_ret2
      exact ⟨rfl, belowN2 _ _ _⟩
    · have HP : Hid (nodeK S (1, n) ps = (0, 0)) := Lib.hid (by show ((0 : Int), (hadF n (fitB n (-1048576) 1048576) 10).2) = _; rw [show fitB n (-1048576) 1048576 = true from decide_eq_true (by omega)]; rfl)
      rw [HP.out]
      unfold ScX.v
      go_enter Tryz.func34, Tryz.ntmps34
      go_wp2
      go_ret2
      exact ⟨rfl, belowN2 _ _ _⟩

set_option maxRecDepth 20000 in
set_option maxHeartbeats 4000000 in
theorem refLeaf_var (X : ScX) (S : Sc) (op n : Int) (ps : List Int) (w : World) (h : SR w X S) (hop : op = 2 ∨ op = 4) : Calls Tryz.prog 34 #[.agg #[.int .i64 op, .int .i64 n], X.v] w (PairP w (nodeK S (op, n) ps)) := by
  have HS := Lib.hid h
  have hn1 := h.small
  clear h
  rcases hop with rfl | rfl
  · have HP : Hid (nodeK S (2, n) ps = plainK X.n1 S.vars n) := Lib.hid (by rw [HS.out.l1]; rfl)
    rw [HP.out]
    cases hv : varK X.n1 S.vars n with
    | none =>
      have HE := Lib.hid (plainK_none hv)
      rw [HE.out]
      have HV := Lib.hid hv
      clear hv
      unfold ScX.v
      go_enter Tryz.func34, Tryz.ntmps34
      go_wp2_with fail
      refine (refVariable_no X X.a2 X.n2 X.c2 S.vars n _ HS.out.l2 (HS.out.r2.below (belowN2 _ _ _)) HV.out).mono ?_
      rintro e w1 ⟨rfl, hb1⟩
      have HB1 : Hid (Below w.heap.size w w1) := Lib.hid (bthen (belowN2 _ _ _) hb1)
      clear hb1
      go_wp2
      go_ret2
      exact ⟨rfl, bthen HB1.out (below_alloc1 _ _)⟩
    | some xy =>
      obtain ⟨x, y⟩ := xy
      obtain ⟨k0, e1, e2, e3, x1, x2, y1, y2⟩ := varK_some hv
      clear e1 e2 e3
      have HPK := Lib.hid (plainK_some hv)
      rw [HPK.out]
      have HV := Lib.hid hv
      clear hv
      by_cases hy : y = 0
      · subst hy
        have HE : Hid (hadF (kindOf x) (kindOf 0 == 0) 9 = (kindOf x, 0)) := Lib.hid (by simp [kindOf, hadF])
        rw [HE.out]
        unfold ScX.v
        go_enter Tryz.func34, Tryz.ntmps34
        go_wp2_with fail
        refine (refVariable_some X X.a2 X.n2 X.c2 S.vars n x 0 _ HS.out.l2 (HS.out.r2.below (belowN2 _ _ _)) HV.out).mono ?_
        rintro e w1 ⟨⟨s0, p, q, r, rfl⟩, hb1⟩
        have HB1 : Hid (Below w.heap.size w w1) := Lib.hid (bthen (belowN2 _ _ _) hb1)
        clear hb1
        go_wp2_with fail
        refine (refKindOf_any x _ x1 (by omega)).mono ?_
        rintro e w' ⟨rfl, rfl⟩
        go_wp2
        go_ret2
        exact ⟨rfl, bthen HB1.out (below_alloc1 _ _)⟩
      · have hy0 : (y != 0) = true := by simpa using hy
        have HE : Hid (hadF (kindOf x) (kindOf y == 0) 9 = (0, 9)) := Lib.hid (by
          rw [show kindOf y = 1 + y from if_neg hy]
          have h1 : (1 + y == 0) = false := by simp; omega
          rw [h1]
          rfl)
        rw [HE.out]
        unfold ScX.v
        go_enter Tryz.func34, Tryz.ntmps34
        go_wp2_with fail
        refine (refVariable_some X X.a2 X.n2 X.c2 S.vars n x y _ HS.out.l2 (HS.out.r2.below (belowN2 _ _ _)) HV.out).mono ?_
        rintro e w1 ⟨⟨s0, p, q, r, rfl⟩, hb1⟩
        have HB1 : Hid (Below w.heap.size w w1) := Lib.hid (bthen (belowN2 _ _ _) hb1)
        clear hb1
        go_wp2
        go_ret2
        exact ⟨rfl, bthen HB1.out (below_alloc1 _ _)⟩
  · have HP : Hid (nodeK S (4, n) ps = plainK X.n1 S.locals n) := Lib.hid (by rw [HS.out.l1]; rfl)
    rw [HP.out]
    cases hv : varK X.n1 S.locals n with
    | none =>
      have HE := Lib.hid (plainK_none hv)
      rw [HE.out]
      have HV := Lib.hid hv
      clear hv
      unfold ScX.v
      go_enter Tryz.func34, Tryz.ntmps34
      go_wp2_with fail
      refine (refVariable_no X X.a5 X.n5 X.c5 S.locals n _ HS.out.l5 (HS.out.r5.below (belowN2 _ _ _)) HV.out).mono ?_
      rintro e w1 ⟨rfl, hb1⟩
      have HB1 : Hid (Below w.heap.size w w1) := Lib.hid (bthen (belowN2 _ _ _) hb1)
      clear hb1
      go_wp2
      go_ret2
      exact ⟨rfl, bthen HB1.out (below_alloc1 _ _)⟩
    | some xy =>
      obtain ⟨x, y⟩ := xy
      obtain ⟨k0, e1, e2, e3, x1, x2, y1, y2⟩ := varK_some hv
      clear e1 e2 e3
      have HPK := Lib.hid (plainK_some hv)
      rw [HPK.out]
      have HV := Lib.hid hv
      clear hv
      by_cases hy : y = 0
      · subst hy
        have HE : Hid (hadF (kindOf x) (kindOf 0 == 0) 9 = (kindOf x, 0)) := Lib.hid (by simp [kindOf, hadF])
        rw [HE.out]
        unfold ScX.v
        go_enter Tryz.func34, Tryz.ntmps34
        go_wp2_with fail
        refine (refVariable_some X X.a5 X.n5 X.c5 S.locals n x 0 _ HS.out.l5 (HS.out.r5.below (belowN2 _ _ _)) HV.out).mono ?_
        rintro e w1 ⟨⟨s0, p, q, r, rfl⟩, hb1⟩
        have HB1 : Hid (Below w.heap.size w w1) := Lib.hid (bthen (belowN2 _ _ _) hb1)
        clear hb1
        go_wp2_with fail
        refine (refKindOf_any x _ x1 (by omega)).mono ?_
        rintro e w' ⟨rfl, rfl⟩
        go_wp2
        go_ret2
        exact ⟨rfl, bthen HB1.out (below_alloc1 _ _)⟩
      · have hy0 : (y != 0) = true := by simpa using hy
        have HE : Hid (hadF (kindOf x) (kindOf y == 0) 9 = (0, 9)) := Lib.hid (by
          rw [show kindOf y = 1 + y from if_neg hy]
          have h1 : (1 + y == 0) = false := by simp; omega
          rw [h1]
          rfl)
        rw [HE.out]
        unfold ScX.v
        go_enter Tryz.func34, Tryz.ntmps34
        go_wp2_with fail
        refine (refVariable_some X X.a5 X.n5 X.c5 S.locals n x y _ HS.out.l5 (HS.out.r5.below (belowN2 _ _ _)) HV.out).mono ?_
        rintro e w1 ⟨⟨s0, p, q, r, rfl⟩, hb1⟩
        have HB1 : Hid (Below w.heap.size w w1) := Lib.hid (bthen (belowN2 _ _ _) hb1)
        clear hb1
        go_wp2
        go_ret2
        exact ⟨rfl, bthen HB1.out (below_alloc1 _ _)⟩
set_option maxRecDepth 20000 in
set_option maxHeartbeats 4000000 in
theorem refLeaf_self (X : ScX) (S : Sc) (n : Int) (ps : List Int) (w : World) (h : SR w X S) : Calls Tryz.prog 34 #[.agg #[.int .i64 5, .int .i64 n], X.v] w (PairP w (nodeK S (5, n) ps)) := by
  have hn1 := h.small
  have HP : Hid (nodeK S (5, n) ps = if 1 ≤ X.self ∧ X.self ≤ X.n1 then (1 + X.self, 0) else (0, 8)) := Lib.hid (by rw [h.l1, h.self]; rfl)
  rw [HP.out]
  clear h
  by_cases h1 : X.self < 1
  · rw [if_neg (by omega)]
    unfold ScX.v
    go_enter Tryz.func34, Tryz.ntmps34
    go_wp2
    go_ret2
    exact ⟨rfl, belowN2 _ _ _⟩
  · by_cases h2 : (X.n1 : Int) < X.self
    · rw [if_neg (by omega)]
      unfold ScX.v
      go_enter Tryz.func34, Tryz.ntmps34
      go_wp2
      go_ret2
      exact ⟨rfl, belowN2 _ _ _⟩
    · rw [if_pos (by omega)]
      unfold ScX.v
      go_enter Tryz.func34, Tryz.ntmps34
      go_wp2
      go_ret2
      exact ⟨rfl, belowN2 _ _ _⟩
set_option maxRecDepth 20000 in
set_option maxHeartbeats 4000000 in
theorem refLeaf_none (X : ScX) (S : Sc) (n : Int) (ps : List Int) (w : World) (h : SR w X S) : Calls Tryz.prog 34 #[.agg #[.int .i64 8, .int .i64 n], X.v] w (PairP w (nodeK S (8, n) ps)) := by
  have hn1 := h.small
  have HP : Hid (nodeK S (8, n) ps = if 0 ≤ n ∧ n < X.n1 then (2 + n, 0) else (0, 8)) := Lib.hid (by rw [h.l1]; rfl)
  rw [HP.out]
  clear h
  by_cases h1 : n < 0
  · rw [if_neg (by omega)]
    unfold ScX.v
    go_enter Tryz.func34, Tryz.ntmps34
    go_wp2
    go_ret2
    exact ⟨rfl, belowN2 _ _ _⟩
  · by_cases h2 : (X.n1 : Int) ≤ n
    · rw [if_neg (by omega)]
      unfold ScX.v
      go_enter Tryz.func34, Tryz.ntmps34
      go_wp2
      go_ret2
      exact ⟨rfl, belowN2 _ _ _⟩
    · rw [if_pos (by omega)]
      unfold ScX.v
      go_enter Tryz.func34, Tryz.ntmps34
      go_wp2
      go_ret2
      exact ⟨rfl, belowN2 _ _ _⟩
set_option maxRecDepth 20000 in
set_option maxHeartbeats 4000000 in
theorem refLeaf_len (X : ScX) (S : Sc) (n : Int) (ps : List Int) (w : World) (h : SR w X S) : Calls Tryz.prog 34 #[.agg #[.int .i64 6, .int .i64 n], X.v] w (PairP w (nodeK S (6, n) ps)) := by
  have HS := Lib.hid h
  have HP : Hid (nodeK S (6, n) ps = hadF 0 (chanB X.n1 S.chans n) 8) := Lib.hid (by rw [h.l1]; rfl)
  rw [HP.out]
  clear h
  obtain ⟨bb, HB⟩ : ∃ bb, Hid (chanB X.n1 S.chans n = bb) := ⟨_, Lib.hid rfl⟩
  rw [HB.out]
  unfold ScX.v
  cases bb
  all_goals
    go_enter Tryz.func34, Tryz.ntmps34
    go_wp2_with fail
    refine (refChannel_any X S.chans n _ HS.out.l3 (HS.out.r3.below (belowN2 _ _ _))).mono ?_
    rw [HB.out]
    rintro e w1 ⟨⟨s0, p, q, r, u, t, rfl⟩, hb1⟩
    have HB1 : Hid (Below w.heap.size w w1) := Lib.hid (bthen (belowN2 _ _ _) hb1)
    clear hb1
    go_wp2
    go_ret2
    exact ⟨rfl, bthen HB1.out (below_alloc1 _ _)⟩
set_option maxRecDepth 20000 in
set_option maxHeartbeats 4000000 in
theorem refLeaf_at (X : ScX) (S : Sc) (n : Int) (ps : List Int) (w : World) (h : SR w X S) (hn : -9223372036854775808 ≤ n ∧ n ≤ 9223372036854775807) : Calls Tryz.prog 34 #[.agg #[.int .i64 7, .int .i64 n], X.v] w (PairP w (nodeK S (7, n) ps)) := by
  have HS := Lib.hid h
  have HP : Hid (nodeK S (7, n) ps = hadF 0 (locB S.procs n) 8) := Lib.hid rfl
  rw [HP.out]
  obtain ⟨n1, n2⟩ := hn
  by_cases h0 : n < 0
  · have HB : Hid (hadF 0 (locB S.procs n) 8 = (0, 8)) := Lib.hid (by rw [show locB S.procs n = false from decide_eq_false (by omega)]; rfl)
    rw [HB.out]
    have hd : decide (n < 0) = true := decide_eq_true h0
    clear h n1 n2
    unfold ScX.v
    go_enter Tryz.func34, Tryz.ntmps34
    go_wp2
    go_quiet (fail)
    go_wp2
    go_ret2
    exact ⟨rfl, below_drewN (belowN2 _ _ _) _⟩
  · have hd : decide (n < 0) = false := decide_eq_false h0
    obtain ⟨d, HD0⟩ : ∃ d : Nat, Hid (n / 16 = d) := ⟨(n / 16).toNat, Lib.hid (by omega)⟩
    obtain ⟨r, HR0⟩ : ∃ r : Nat, Hid (n % 16 = r) := ⟨(n % 16).toNat, Lib.hid (by omega)⟩
    have HQ0 : Hid (n.tdiv 16 = d) := Lib.hid ((Int.tdiv_eq_ediv_of_nonneg (by omega)).trans HD0.out)
    have HM0 : Hid (n.tmod 16 = r) := Lib.hid ((Int.tmod_eq_emod_of_nonneg (by omega)).trans HR0.out)
    have q5 : IntKind.i64.wrap (d : Int) = (d : Int) := IntWalk.i64_in _ (by have := HD0.out; omega)
    have q6 : IntKind.i64.wrap (r : Int) = (r : Int) := IntWalk.i64_in _ (by have := HR0.out; omega)
    by_cases hdn : X.n4 ≤ d
    · have HB : Hid (hadF 0 (locB S.procs n) 8 = (0, 8)) := Lib.hid (by
        rw [show locB S.procs n = false from decide_eq_false (by rw [HD0.out, ← HS.out.l4]; omega)]
        rfl)
      rw [HB.out]
      have g1 : decide ((X.n4 : Int) ≤ (d : Int)) = true := decide_eq_true (by omega)
      have g2 : decide (X.n4 ≤ d) = true := decide_eq_true hdn
      clear h n1 n2 h0 hdn
      unfold ScX.v
      go_enter Tryz.func34, Tryz.ntmps34
      have q1 := HD0.out
      have q2 := HR0.out
      have q3 := HQ0.out
      have q4 := HM0.out
      go_wp2
      go_quiet (fail)
      go_wp2
      go_ret2
      exact ⟨rfl, below_drewN (belowN2 _ _ _) _⟩
    · obtain ⟨b, o, ha, hb, hc⟩ := HS.out.r4 (by rw [← HS.out.l4]; omega)
      obtain ⟨s0, p, A1, A2, m1, d1, m2, d2, k0, k1, k2, k3, k4⟩ := hc d (by rw [← HS.out.l4]; omega)
      obtain ⟨x, HX⟩ : ∃ x, Hid (S.procs.getD d 0 = x) := ⟨_, Lib.hid rfl⟩
      rw [HX.out] at k2
      have HLB : Hid (locB S.procs n = decide ((r : Int) < x)) := Lib.hid (by
        unfold locB
        rw [HD0.out, HR0.out, Int.toNat_natCast, HX.out, ← HS.out.l4, Bool.eq_iff_iff, decide_eq_true_iff, decide_eq_true_iff]
        omega)
      have g1 : decide ((X.n4 : Int) ≤ (d : Int)) = false := decide_eq_false (by omega)
      have g2 : decide (X.n4 ≤ d) = false := decide_eq_false hdn
      have hdl : d < X.n4 := by omega
      have HA := Lib.hid ha
      clear h n1 n2 h0 hdn hc k0 k1 k3 k4 ha
      by_cases hr : x ≤ (r : Int)
      · have HB : Hid (hadF 0 (locB S.procs n) 8 = (0, 8)) := Lib.hid (by rw [HLB.out, decide_eq_false (by omega)]; rfl)
        rw [HB.out]
        have g3 : decide (x ≤ (r : Int)) = true := decide_eq_true hr
        clear hr
        unfold ScX.v
        go_enter Tryz.func34, Tryz.ntmps34
        have q1 := HD0.out
        have q2 := HR0.out
        have q3 := HQ0.out
        have q4 := HM0.out
        rw [HA.out] at *
        go_wp2
        go_quiet (fail)
        go_wp2
        go_ret2
        exact ⟨rfl, below_drewN (belowN2 _ _ _) _⟩
      · have HB : Hid (hadF 0 (locB S.procs n) 8 = (0, 0)) := Lib.hid (by rw [HLB.out, decide_eq_true (by omega)]; rfl)
        rw [HB.out]
        have g3 : decide (x ≤ (r : Int)) = false := decide_eq_false hr
        clear hr
        unfold ScX.v
        go_enter Tryz.func34, Tryz.ntmps34
        have q1 := HD0.out
        have q2 := HR0.out
        have q3 := HQ0.out
        have q4 := HM0.out
        rw [HA.out] at *
        go_wp2
        go_quiet (fail)
        go_wp2
        go_ret2
        exact ⟨rfl, below_drewN (belowN2 _ _ _) _⟩
theorem refLeaf_any (X : ScX) (S : Sc) (op n : Int) (ps : List Int) (w : World) (h : SR w X S) (hop : 1 ≤ op ∧ op ≤ 8 ∧ op ≠ 3) (hn : -9223372036854775808 ≤ n ∧ n ≤ 9223372036854775807) :
    Calls Tryz.prog 34 #[.agg #[.int .i64 op, .int .i64 n], X.v] w (PairP w (nodeK S (op, n) ps)) := by
  have hc : op = 1 ∨ (op = 2 ∨ op = 4) ∨ op = 5 ∨ op = 6 ∨ op = 7 ∨ op = 8 := by omega
  rcases hc with rfl | hc | rfl | rfl | rfl | rfl
  · exact refLeaf_num X S n ps w h
  · exact refLeaf_var X S op n ps w h hc
  · exact refLeaf_self X S n ps w h
  · exact refLeaf_len X S n ps w h
  · exact refLeaf_at X S n ps w h hn
  · exact refLeaf_none X S n ps w h
end Go.Proofs.YtmnigdphikoljaaGreatDoor
namespace Go.Proofs.YtmnigdphikoljaaGreatDoor
open Go.ChangeShapes Go.WideShapes Go.ChangeAt Go.RowKit

/-- The document's values of nodes, by how many parts they take: they are the program's. -/
theorem nodeK_two (S : Sc) (op n l r : Int) (h : 11 ≤ op ∧ op ≤ 19) : nodeK S (op, n) [l, r] = opK op [l, r] := by
  unfold nodeK
  simp only
  rw [if_neg (by omega), if_neg (by omega), if_neg (by omega), if_neg (by omega), if_neg (by omega), if_neg (by omega), if_neg (by omega), if_neg (by omega)]
theorem takes_one {op : Int} (h : takesZ op = 1) : op = 3 ∨ op = 9 ∨ op = 10 := by
  unfold takesZ at h
  split at h
  · assumption
  · split at h
    · cases h
    · split at h <;> cases h
theorem takes_two {op : Int} (h : takesZ op = 2) : 11 ≤ op ∧ op ≤ 19 := by
  unfold takesZ at h
  split at h
  · cases h
  · split at h
    · assumption
    · split at h <;> cases h
theorem oi_none (w : World) (base : Nat) (hb : base ≤ w.heap.size) : OI base (w.alloc (.cells #[] 3)) (.slice (some ⟨w.heap.size, 0, none⟩) 0 0) [] :=
  ⟨rfl, .inr ⟨w.heap.size, 0, #[], rfl, hb, heap_alloc_new w _, Nat.le_refl _, Nat.zero_le _, rfl, rfl⟩⟩

theorem B0_below {w wr : World} {bx : Nat} (h : Below bx w wr) (e : w.heap.size = bx) : Below w.heap.size w wr := by rw [e]; exact h
set_option maxRecDepth 20000 in
set_option maxHeartbeats 8000000 in
theorem refKind_any (X : ScX) (S : Sc) (e : List (Int × Int)) (A : Option Addr) (c m : Nat) (w : World) (h : SR w X S) (hm : m = e.length) (hA : PA w A e) (hN : N64 e) (hml : m ≤ 8796093022208) :
    Calls Tryz.prog 16 #[.slice A m c, X.v] w (PairP w (kindF S e)) := by
  have HM := Lib.hid hm
  have HA := Lib.hid hA
  have HN64 := Lib.hid hN
  have HS := Lib.hid h
  clear hm hA hN h
  by_cases hl : 24 < m
  · have HE : Hid (kindF S e = (0, 5)) := Lib.hid (if_pos (by rw [← HM.out]; exact hl))
    rw [HE.out]
    unfold ScX.v
    go_enter Tryz.func16, Tryz.ntmps16
    go_wp2
    go_ret2
    exact ⟨rfl, below_alloc1 _ _⟩
  by_cases h0 : m = 0
  · have he : e = [] := List.eq_nil_of_length_eq_zero (by rw [← HM.out]; exact h0)
    subst he
    subst h0
    unfold ScX.v
    go_enter Tryz.func16, Tryz.ntmps16
    go_wp2
    go_ret2
    exact ⟨rfl, below_alloc1 _ _⟩
  have HE : Hid (kindF S e = runF (fun _ => nodeK S) 12 0 e []) := Lib.hid (if_neg (by rw [← HM.out]; exact hl))
  have h0' : ((m : Int) == 0) = false := by simp; omega
  obtain ⟨r1, r2, HRR⟩ : ∃ r1 r2, Hid (kindF S e = (r1, r2)) := ⟨_, _, Lib.hid rfl⟩
  rw [HRR.out]
  unfold ScX.v
  go_enter Tryz.func16, Tryz.ntmps16
  go_upto_region 6 with (fail)
  obtain ⟨w1, HW1, hX1, HB1⟩ : ∃ w1, w1 = w.alloc (.cells #[.slice X.a1 X.n1 X.c1, .slice X.a2 X.n2 X.c2, .slice X.a3 X.n3 X.c3, .slice X.a4 X.n4 X.c4, .slice X.a5 X.n5 X.c5, .int .i64 X.self] 28) ∧ Bx w1 w.heap.size X ∧ Hid (Below w.heap.size w w1) := ⟨_, rfl, Bx.new w X _, Lib.hid (below_alloc1 _ _)⟩
  rw [← HW1]
  have HX1 := Lib.hid hX1
  clear HW1 hX1
  generalize hbx : w.heap.size = bx at *
  have HBX := Lib.hid hbx
  clear hbx
  go_wp2
  go_loopw [6, 7] (fun s i wr => ∃ (k n : Nat) (B : Option Addr) (d : Nat) (st : List Int), k ≤ m ∧ i = .int .i64 k ∧ s = .slice B n d ∧ Hid (n = st.length ∧ (0 < k → 0 < n)) ∧ n ≤ k ∧ Hid (OI w1.heap.size wr (.slice B n d) st) ∧ Hid (Below w1.heap.size w1 wr) ∧
    Hid (kindF S e = runF (fun _ => nodeK S) 12 k (e.drop k) st)) (fun _ i _ => m - (intOf i).toNat)
  case atStart => exact ⟨0, 0, none, 0, [], Nat.zero_le _, rfl, rfl, Lib.hid ⟨rfl, fun h => h⟩, Nat.le_refl _, Lib.hid (OI.nil _ _), Lib.hid (Below.refl _ _), HE⟩
  case round =>
    obtain ⟨k, n, B, d, st, hk, rfl, rfl, HNP, hn, HO, HW, HR⟩ := hrel
    have HN : Hid (n = st.length) := Lib.hid HNP.out.1
    have HWW : Hid (Below bx w wr) := Lib.hid (HB1.out.trans (HW.out.mono (by have := HB1.out.size; have := HBX.out; omega)))
    by_cases hlt : k < m
    · have HK : Hid (k < e.length) := Lib.hid (by rw [← HM.out]; exact hlt)
      obtain ⟨ba, oa, rfl, hba, hca⟩ := (HA.out.below (B0_below HWW.out HBX.out)) (by rw [← HM.out]; omega)
      obtain ⟨c1, c2⟩ := hca k HK.out
      obtain ⟨op, HOP⟩ : ∃ op, Hid ((e.getD k (0, 0)).1 = op) := ⟨_, Lib.hid rfl⟩
      obtain ⟨nq, HNQ⟩ : ∃ nq, Hid ((e.getD k (0, 0)).2 = nq) := ⟨_, Lib.hid rfl⟩
      have HNR : Hid (-9223372036854775808 ≤ nq ∧ nq ≤ 9223372036854775807) := Lib.hid (by rw [← HNQ.out]; exact HN64.out.at_ k)
      have HND : Hid (e.getD k (0, 0) = (op, nq)) := Lib.hid (by rw [← HOP.out, ← HNQ.out])
      rw [HOP.out] at c1
      rw [HNQ.out] at c2
      obtain ⟨⟨x0, x1, x2, x3, x4, x5⟩, hbz⟩ := HX1.out.below HW.out
      have HSW := Lib.hid (HS.out.below (B0_below HWW.out HBX.out))
      clear hca
      go_wp2_with fail
      refine (refTakes_any op wr).mono ?_
      rintro x w' ⟨rfl, rfl⟩
      have hr := takesZ_range op
      by_cases hneg : takesZ op < 0
      · have HE2 : Hid (kindF S e = (0, 3)) := Lib.hid (by rw [HR.out, run_form HK.out (by rw [HOP.out]; exact hneg)])
        have HRE : Hid ((r1, r2) = ((0 : Int), (3 : Int))) := Lib.hid (HRR.out.symm.trans HE2.out)
        generalize takesZ op = z at hneg ⊢
        clear hr c1 c2 x0 x1 x2 x3 x4 x5
        go_wp2
        go_ret2
        exact ⟨by rw [pair_of HRE.out]; rfl, by rw [HBX.out]; exact HWW.out⟩
      · obtain ⟨t, HT⟩ : ∃ t : Nat, Hid (takesZ op = t) := ⟨(takesZ op).toNat, Lib.hid (by omega)⟩
        have ht : t = 0 ∨ t = 1 ∨ t = 2 := by have := HT.out; omega
        rw [HT.out]
        clear hneg hr
        by_cases hsh : n < t
        · have HE2 : Hid (kindF S e = (0, 4)) := Lib.hid (by rw [HR.out, run_short HK.out (by rw [HOP.out, HT.out]; omega) (by rw [HOP.out, HT.out, ← HN.out]; omega)])
          have HRE : Hid ((r1, r2) = ((0 : Int), (4 : Int))) := Lib.hid (HRR.out.symm.trans HE2.out)
          clear c1 c2 x0 x1 x2 x3 x4 x5 ht
          go_wp2
          go_ret2
          exact ⟨by rw [pair_of HRE.out]; rfl, by rw [HBX.out]; exact HWW.out⟩
        · obtain ⟨left, rfl⟩ : ∃ left, n = left + t := ⟨n - t, by omega⟩
          clear hsh
          have HTK : Hid (takesZ (e.getD k (0, 0)).1 = t) := Lib.hid (by rw [HOP.out, HT.out])
          have HTL : Hid (t ≤ st.length) := Lib.hid (by have := HN.out; omega)
          have HLL : Hid (st.length - t = left) := Lib.hid (by have := HN.out; omega)
          obtain ⟨y1, y2, HY⟩ : ∃ y1 y2, Hid (nodeK S (op, nq) (st.drop left) = (y1, y2)) := ⟨_, _, Lib.hid rfl⟩
          have HDR : Hid (nodeK S (e.getD k (0, 0)) (st.drop (st.length - t)) = (y1, y2)) := Lib.hid (by rw [HND.out, HLL.out]; exact HY.out)
          rcases ht with rfl | rfl | rfl
          · have HCL : Hid (Calls Tryz.prog 34 #[.agg #[.int .i64 op, .int .i64 nq], X.v] wr.drew (PairP wr.drew (y1, y2))) := Lib.hid (by
              have h1 := refLeaf_any X S op nq (st.drop left) wr.drew (HSW.out.below (Below.refl _ wr).drew) (takes_leaf HT.out) HNR.out
              rw [HY.out] at h1
              exact h1)
            go_upto_region 18 with (fail)
            go_region_held3 (fun w' => w'.cell? ⟨bx, 0, none⟩ = some (.slice X.a1 X.n1 X.c1) ∧ w'.cell? ⟨bx, 1, none⟩ = some (.slice X.a2 X.n2 X.c2) ∧ w'.cell? ⟨bx, 2, none⟩ = some (.slice X.a3 X.n3 X.c3) ∧ w'.cell? ⟨bx, 3, none⟩ = some (.slice X.a4 X.n4 X.c4) ∧ w'.cell? ⟨bx, 4, none⟩ = some (.slice X.a5 X.n5 X.c5) ∧ w'.cell? ⟨bx, 5, none⟩ = some (.int .i64 X.self) ∧ w'.cell? ⟨ba, oa + k * 2, none⟩ = some (.int .i64 op) ∧ w'.cell? ⟨ba, oa + k * 2 + 1, none⟩ = some (.int .i64 nq))
              (first | exact ⟨x0, x1, x2, x3, x4, x5, c1, c2⟩ | exact ⟨g0, g1, g2, g3, g4, gx, g5, g6⟩ | go_keep)
              ((go_at_call 34; refine HCL.out.mono ?_; rintro x v3 ⟨rfl, hb4⟩; have g0 := (hb4.cell (p := ⟨bx, 0, none⟩) hbz).trans x0; have g1 := (hb4.cell (p := ⟨bx, 1, none⟩) hbz).trans x1; have g2 := (hb4.cell (p := ⟨bx, 2, none⟩) hbz).trans x2; have g3 := (hb4.cell (p := ⟨bx, 3, none⟩) hbz).trans x3; have g4 := (hb4.cell (p := ⟨bx, 4, none⟩) hbz).trans x4; have gx := (hb4.cell (p := ⟨bx, 5, none⟩) hbz).trans x5; have g5 := (hb4.cell (p := ⟨ba, oa + k * 2, none⟩) hba).trans c1; have g6 := (hb4.cell (p := ⟨ba, oa + k * 2 + 1, none⟩) hba).trans c2; have HBV : Hid (Below wr.heap.size wr v3) := Lib.hid ((Below.refl wr.heap.size wr).drew.trans hb4); clear hb4))
            clear c1 c2 x0 x1 x2 x3 x4 x5
            have HB3 : Hid (Below wr.heap.size wr v3) := HBV
            have HW3 : Hid (Below w1.heap.size w1 v3) := Lib.hid (HW.out.trans (HB3.out.mono HW.out.size))
            have HO3 : Hid (OI w1.heap.size v3 (.slice B left d) st) := Lib.hid (OI.below HO.out HB3.out)
            have HOH : Hid (OI w1.heap.size v3 (.slice B left d) (st.take left)) := Lib.hid (HO3.out.head left (by have := HN.out; omega))
            have HTA : Hid (IA v3 B (st.take left) ∧ (B = none → d = 0) ∧ (st.take left).length = left ∧ left ≤ d) := Lib.hid (by
              have hl2 : (st.take left).length = left := by have := HN.out; simp; omega
              obtain ⟨A5, c5, f5, i5, _⟩ := HOH.out.ins
              injection f5 with f5 f7 f6
              rw [f5, f6]
              refine ⟨i5.ia, i5.non, hl2, ?_⟩
              have := i5.le
              omega)
            clear HBV
            by_cases hy : y2 = 0
            · subst hy
              have EH := head_run B left 0 d (by
                rcases HO3.out.2 with ⟨e1, e2⟩ | ⟨g, cap, cur, e1, _, _, e3, _⟩
                · injection e1 with e1 e3 e4
                  have := HN.out; omega
                · injection e1 with e1 e3 e4
                  have := HN.out; omega)
              simp only [Nat.add_zero] at EH
              have hwz : w1.heap.size ≤ v3.heap.size := HW3.out.size
              have HLX : Hid ((st.take left ++ [y1]).length = left + 1) := Lib.hid (by rw [List.length_append, HTA.out.2.2.1]; rfl)
              have hdl : (left : Int) ≤ (d : Int) := by have := HTA.out.2.2.2; omega
              go_upto_region 26 with (first
                | (at_builtin; refine append_list rfl (.tmp 88) (.tmp 93) rfl w1.heap.size _ [] rfl (oi_none v3 _ hwz) B left d (st.take left) HTA.out.2.2.1.symm rfl (HTA.out.1.below (below_alloc1 _ _)) HTA.out.2.1 (by rw [HTA.out.2.2.1]; simp; omega) (by simp; omega) ?_; intro v4 w4 ho4 hb4; rw [List.nil_append] at ho4; have HO4 := Lib.hid ho4; have HB4 : Hid (Below w1.heap.size w1 w4) := Lib.hid ((HW3.out.alloc hwz _).trans hb4); have hwz4 : w1.heap.size ≤ w4.heap.size := HB4.out.size; clear ho4 hb4)
                | (at_builtin; refine append_one rfl (.tmp 94) (.tmp 96) rfl w1.heap.size _ (st.take left) rfl HO4.out y1 rfl (by have := HTA.out.2.2.1; omega) hwz4 ?_; intro v5 w5 ho5 hb5; obtain ⟨A5, c5, rfl, _⟩ := ho5.form; rw [HLX.out] at ho5 ⊢; have HO5 := Lib.hid ho5; have HB5 : Hid (Below w1.heap.size w1 w5) := Lib.hid (HB4.out.trans hb5); clear ho5 hb5))
              clear EH
              by_cases hdp : 12 < (left : Int) + 1
              · have HE2 : Hid (kindF S e = (0, 12)) := Lib.hid (by rw [HR.out]; exact run_deep HK.out HTK.out HTL.out (by rw [HDR.out]) (by rw [HLL.out]; exact hdp))
                have HRE : Hid ((r1, r2) = ((0 : Int), (12 : Int))) := Lib.hid (HRR.out.symm.trans HE2.out)
                go_wp2
                go_ret2
                exact ⟨by rw [pair_of HRE.out]; rfl, by rw [HBX.out]; exact HB1.out.trans (HB5.out.mono (by have := HB1.out.size; have := HBX.out; omega))⟩
              · have HE2 : Hid (kindF S e = runF (fun _ => nodeK S) 12 (k + 1) (e.drop (k + 1)) (st.take left ++ [y1])) := Lib.hid (by
                  rw [HR.out, run_next HK.out HTK.out HTL.out (by rw [HDR.out]) (by rw [HLL.out]; exact hdp), HDR.out, HLL.out])
                go_wp2
                go_roundw
                case rel => exact ⟨k + 1, left + 1, A5, c5, st.take left ++ [y1], by omega, by go_num, rfl, Lib.hid ⟨HLX.out.symm, fun _ => Nat.succ_pos _⟩, by omega, HO5, HB5, HE2⟩
                case measure => simp [intOf]; omega
            · have hy2 : (y2 != 0) = true := by simpa using hy
              have HE2 : Hid (kindF S e = (0, y2)) := Lib.hid (by rw [HR.out, run_why HK.out HTK.out HTL.out (by rw [HDR.out]; exact hy), HDR.out])
              have HRE : Hid ((r1, r2) = ((0 : Int), y2)) := Lib.hid (HRR.out.symm.trans HE2.out)
              go_wp2
              go_ret2
              exact ⟨by rw [pair_of HRE.out]; rfl, by rw [HBX.out]; exact HB1.out.trans (HW3.out.mono (by have := HB1.out.size; have := HBX.out; omega))⟩
          · have ho1 := takes_one HT.out
            obtain ⟨z1, HZ1⟩ : ∃ z1, Hid (st.drop left = [z1]) 
              := (by
              have hl : (st.drop left).length = 1 := by have := HN.out; simp; omega
              match st.drop left, hl with
              | [a], _ => exact ⟨a, Lib.hid rfl⟩)
            have HCL : Hid (Calls Tryz.prog 35 #[.agg #[.int .i64 op, .int .i64 nq], .int .i64 z1, X.v] wr.drew (PairP wr.drew (y1, y2))) := Lib.hid (by
              have h1 := refOne_any X S op nq z1 wr.drew (HSW.out.below (Below.refl _ wr).drew) ho1
              rw [← HZ1.out, HY.out] at h1
              exact h1)
            obtain ⟨A6, c6, f6, hi6⟩ := HO.out.form
            injection f6 with f6 f7 f8
            subst f6
            clear f7 f8
            obtain ⟨bs, os, rfl, hbs, hcs⟩ := hi6 (by have := HN.out; omega)
            have c3 : wr.cell? ⟨bs, os + left, none⟩ = some (.int .i64 z1) := (hcs left (by have := HN.out; omega)).trans (by
              have h := congrArg (fun l => l.getD 0 0) HZ1.out
              simp [List.getD] at h
              simp [List.getD, h])
            have q5 : IntKind.i64.wrap (left : Int) = (left : Int) := IntWalk.i64_in _ (by omega)
            have q6 : (0 : Int) ≤ (left : Int) := by omega
            have q7 : (left : Int) < (left : Int) + 1 := by omega
            clear hi6 hcs ho1
            go_upto_region 20 with (fail)
            go_region_held3 (fun w' => w'.cell? ⟨bx, 0, none⟩ = some (.slice X.a1 X.n1 X.c1) ∧ w'.cell? ⟨bx, 1, none⟩ = some (.slice X.a2 X.n2 X.c2) ∧ w'.cell? ⟨bx, 2, none⟩ = some (.slice X.a3 X.n3 X.c3) ∧ w'.cell? ⟨bx, 3, none⟩ = some (.slice X.a4 X.n4 X.c4) ∧ w'.cell? ⟨bx, 4, none⟩ = some (.slice X.a5 X.n5 X.c5) ∧ w'.cell? ⟨bx, 5, none⟩ = some (.int .i64 X.self) ∧ w'.cell? ⟨ba, oa + k * 2, none⟩ = some (.int .i64 op) ∧ w'.cell? ⟨ba, oa + k * 2 + 1, none⟩ = some (.int .i64 nq) ∧ w'.cell? ⟨bs, os + left, none⟩ = some (.int .i64 z1))
              (first | exact ⟨x0, x1, x2, x3, x4, x5, c1, c2, c3⟩ | exact ⟨g0, g1, g2, g3, g4, gx, g5, g6, g7⟩ | go_keep)
              ((go_at_call 35; refine HCL.out.mono ?_; rintro x v3 ⟨rfl, hb4⟩; have g0 := (hb4.cell (p := ⟨bx, 0, none⟩) hbz).trans x0; have g1 := (hb4.cell (p := ⟨bx, 1, none⟩) hbz).trans x1; have g2 := (hb4.cell (p := ⟨bx, 2, none⟩) hbz).trans x2; have g3 := (hb4.cell (p := ⟨bx, 3, none⟩) hbz).trans x3; have g4 := (hb4.cell (p := ⟨bx, 4, none⟩) hbz).trans x4; have gx := (hb4.cell (p := ⟨bx, 5, none⟩) hbz).trans x5; have g5 := (hb4.cell (p := ⟨ba, oa + k * 2, none⟩) hba).trans c1; have g6 := (hb4.cell (p := ⟨ba, oa + k * 2 + 1, none⟩) hba).trans c2; have g7 := (hb4.cell (p := ⟨bs, os + left, none⟩) hbs).trans c3; have HBV : Hid (Below wr.heap.size wr v3) := Lib.hid ((Below.refl wr.heap.size wr).drew.trans hb4); clear hb4))
            clear c1 c2 x0 x1 x2 x3 x4 x5 c3 q5 q6 q7
            have HB3 : Hid (Below wr.heap.size wr v3) := HBV
            have HW3 : Hid (Below w1.heap.size w1 v3) := Lib.hid (HW.out.trans (HB3.out.mono HW.out.size))
            have HO3 : Hid (OI w1.heap.size v3 (.slice (some ⟨bs, os, none⟩) (left + 1) d) st) := Lib.hid (OI.below HO.out HB3.out)
            have HOH : Hid (OI w1.heap.size v3 (.slice (some ⟨bs, os, none⟩) left d) (st.take left)) := Lib.hid (HO3.out.head left (by have := HN.out; omega))
            have HTA : Hid (IA v3 (some ⟨bs, os, none⟩) (st.take left) ∧ ((some ⟨bs, os, none⟩ : Option Addr) = none → d = 0) ∧ (st.take left).length = left ∧ left ≤ d) := Lib.hid (by
              have hl2 : (st.take left).length = left := by have := HN.out; simp; omega
              obtain ⟨A5, c5, f5, i5, _⟩ := HOH.out.ins
              injection f5 with f5 f7 f6
              rw [f5, f6]
              refine ⟨i5.ia, i5.non, hl2, ?_⟩
              have := i5.le
              omega)
            clear HBV
            by_cases hy : y2 = 0
            · subst hy
              have EH := head_run (some ⟨bs, os, none⟩) left 1 d (by
                rcases HO3.out.2 with ⟨e1, e2⟩ | ⟨g, cap, cur, e1, _, _, e3, _⟩
                · injection e1 with e1 e3 e4
                  have := HN.out; omega
                · injection e1 with e1 e3 e4
                  have := HN.out; omega)
              
              have hwz : w1.heap.size ≤ v3.heap.size := HW3.out.size
              have HLX : Hid ((st.take left ++ [y1]).length = left + 1) := Lib.hid (by rw [List.length_append, HTA.out.2.2.1]; rfl)
              have hdl : (left : Int) ≤ (d : Int) := by have := HTA.out.2.2.2; omega
              go_upto_region 26 with (first
                | (at_builtin; refine append_list rfl (.tmp 88) (.tmp 93) rfl w1.heap.size _ [] rfl (oi_none v3 _ hwz) (some ⟨bs, os, none⟩) left d (st.take left) HTA.out.2.2.1.symm rfl (HTA.out.1.below (below_alloc1 _ _)) HTA.out.2.1 (by rw [HTA.out.2.2.1]; simp; omega) (by simp; omega) ?_; intro v4 w4 ho4 hb4; rw [List.nil_append] at ho4; have HO4 := Lib.hid ho4; have HB4 : Hid (Below w1.heap.size w1 w4) := Lib.hid ((HW3.out.alloc hwz _).trans hb4); have hwz4 : w1.heap.size ≤ w4.heap.size := HB4.out.size; clear ho4 hb4)
                | (at_builtin; refine append_one rfl (.tmp 94) (.tmp 96) rfl w1.heap.size _ (st.take left) rfl HO4.out y1 rfl (by have := HTA.out.2.2.1; omega) hwz4 ?_; intro v5 w5 ho5 hb5; obtain ⟨A5, c5, rfl, _⟩ := ho5.form; rw [HLX.out] at ho5 ⊢; have HO5 := Lib.hid ho5; have HB5 : Hid (Below w1.heap.size w1 w5) := Lib.hid (HB4.out.trans hb5); clear ho5 hb5))
              clear EH
              by_cases hdp : 12 < (left : Int) + 1
              · have HE2 : Hid (kindF S e = (0, 12)) := Lib.hid (by rw [HR.out]; exact run_deep HK.out HTK.out HTL.out (by rw [HDR.out]) (by rw [HLL.out]; exact hdp))
                have HRE : Hid ((r1, r2) = ((0 : Int), (12 : Int))) := Lib.hid (HRR.out.symm.trans HE2.out)
                go_wp2
                go_ret2
                exact ⟨by rw [pair_of HRE.out]; rfl, by rw [HBX.out]; exact HB1.out.trans (HB5.out.mono (by have := HB1.out.size; have := HBX.out; omega))⟩
              · have HE2 : Hid (kindF S e = runF (fun _ => nodeK S) 12 (k + 1) (e.drop (k + 1)) (st.take left ++ [y1])) := Lib.hid (by
                  rw [HR.out, run_next HK.out HTK.out HTL.out (by rw [HDR.out]) (by rw [HLL.out]; exact hdp), HDR.out, HLL.out])
                go_wp2
                go_roundw
                case rel => exact ⟨k + 1, left + 1, A5, c5, st.take left ++ [y1], by omega, by go_num, rfl, Lib.hid ⟨HLX.out.symm, fun _ => Nat.succ_pos _⟩, by omega, HO5, HB5, HE2⟩
                case measure => simp [intOf]; omega
            · have hy2 : (y2 != 0) = true := by simpa using hy
              have HE2 : Hid (kindF S e = (0, y2)) := Lib.hid (by rw [HR.out, run_why HK.out HTK.out HTL.out (by rw [HDR.out]; exact hy), HDR.out])
              have HRE : Hid ((r1, r2) = ((0 : Int), y2)) := Lib.hid (HRR.out.symm.trans HE2.out)
              go_wp2
              go_ret2
              exact ⟨by rw [pair_of HRE.out]; rfl, by rw [HBX.out]; exact HB1.out.trans (HW3.out.mono (by have := HB1.out.size; have := HBX.out; omega))⟩
          · have ho1 := takes_two HT.out
            obtain ⟨z1, z2, HZ1⟩ : ∃ z1 z2, Hid (st.drop left = [z1, z2]) 
              := (by
              have hl : (st.drop left).length = 2 := by have := HN.out; simp; omega
              match st.drop left, hl with
              | [a, b], _ => exact ⟨a, b, Lib.hid rfl⟩)
            have HCL : Hid (Calls Tryz.prog 36 #[.int .i64 op, .int .i64 z1, .int .i64 z2] wr.drew (PairP wr.drew (y1, y2))) := Lib.hid (by
              have h1 := refTwo_any op z1 z2 wr.drew ho1
              rw [← nodeK_two S op nq z1 z2 ho1, ← HZ1.out, HY.out] at h1
              exact h1)
            obtain ⟨A6, c6, f6, hi6⟩ := HO.out.form
            injection f6 with f6 f7 f8
            subst f6
            clear f7 f8
            obtain ⟨bs, os, rfl, hbs, hcs⟩ := hi6 (by have := HN.out; omega)
            have c3 : wr.cell? ⟨bs, os + left, none⟩ = some (.int .i64 z1) := (hcs left (by have := HN.out; omega)).trans (by
              have h := congrArg (fun l => l.getD 0 0) HZ1.out
              simp [List.getD] at h
              simp [List.getD, h])
            have c4 : wr.cell? ⟨bs, os + (left + 1), none⟩ = some (.int .i64 z2) := (hcs (left + 1) (by have := HN.out; omega)).trans (by
              have h := congrArg (fun l => l.getD 1 0) HZ1.out
              simp [List.getD] at h
              simp [List.getD, h])
            have q5 : IntKind.i64.wrap (left : Int) = (left : Int) := IntWalk.i64_in _ (by omega)
            have q5' : IntKind.i64.wrap ((left : Int) + 1) = (left : Int) + 1 := IntWalk.i64_in _ (by omega)
            have q6 : (0 : Int) ≤ (left : Int) := by omega
            have q6' : (0 : Int) ≤ (left : Int) + 1 := by omega
            have q7 : (left : Int) < (left : Int) + 2 := by omega
            have q7' : (left : Int) + 1 < (left : Int) + 2 := by omega
            have q8 : ((left : Int) + 1).toNat = left + 1 := by omega
            have q9 : IntKind.i64.wrap ((left : Int) + 2 - 1) = (left : Int) + 1 := (IntWalk.i64_in _ (by omega)).trans (by omega)
            clear hi6 hcs ho1
            go_upto_region 22 with (fail)
            go_region_held3 (fun w' => w'.cell? ⟨ba, oa + k * 2, none⟩ = some (.int .i64 op) ∧ w'.cell? ⟨bs, os + left, none⟩ = some (.int .i64 z1) ∧ w'.cell? ⟨bs, os + (left + 1), none⟩ = some (.int .i64 z2))
              (first | exact ⟨c1, c3, c4⟩ | exact ⟨g5, g7, g8⟩ | go_keep)
              ((go_at_call 36; refine HCL.out.mono ?_; rintro x v3 ⟨rfl, hb4⟩; have g5 := (hb4.cell (p := ⟨ba, oa + k * 2, none⟩) hba).trans c1; have g7 := (hb4.cell (p := ⟨bs, os + left, none⟩) hbs).trans c3; have g8 := (hb4.cell (p := ⟨bs, os + (left + 1), none⟩) hbs).trans c4; have HBV : Hid (Below wr.heap.size wr v3) := Lib.hid ((Below.refl wr.heap.size wr).drew.trans hb4); clear hb4))
            clear c1 c2 x0 x1 x2 x3 x4 x5 c3 c4 q5 q6 q7 q5' q6' q7' q8 q9
            have HB3 : Hid (Below wr.heap.size wr v3) := HBV
            have HW3 : Hid (Below w1.heap.size w1 v3) := Lib.hid (HW.out.trans (HB3.out.mono HW.out.size))
            have HO3 : Hid (OI w1.heap.size v3 (.slice (some ⟨bs, os, none⟩) (left + 2) d) st) := Lib.hid (OI.below HO.out HB3.out)
            have HOH : Hid (OI w1.heap.size v3 (.slice (some ⟨bs, os, none⟩) left d) (st.take left)) := Lib.hid (HO3.out.head left (by have := HN.out; omega))
            have HTA : Hid (IA v3 (some ⟨bs, os, none⟩) (st.take left) ∧ ((some ⟨bs, os, none⟩ : Option Addr) = none → d = 0) ∧ (st.take left).length = left ∧ left ≤ d) := Lib.hid (by
              have hl2 : (st.take left).length = left := by have := HN.out; simp; omega
              obtain ⟨A5, c5, f5, i5, _⟩ := HOH.out.ins
              injection f5 with f5 f7 f6
              rw [f5, f6]
              refine ⟨i5.ia, i5.non, hl2, ?_⟩
              have := i5.le
              omega)
            clear HBV
            by_cases hy : y2 = 0
            · subst hy
              have EH := head_run (some ⟨bs, os, none⟩) left 2 d (by
                rcases HO3.out.2 with ⟨e1, e2⟩ | ⟨g, cap, cur, e1, _, _, e3, _⟩
                · injection e1 with e1 e3 e4
                  have := HN.out; omega
                · injection e1 with e1 e3 e4
                  have := HN.out; omega)
              
              have hwz : w1.heap.size ≤ v3.heap.size := HW3.out.size
              have HLX : Hid ((st.take left ++ [y1]).length = left + 1) := Lib.hid (by rw [List.length_append, HTA.out.2.2.1]; rfl)
              have hdl : (left : Int) ≤ (d : Int) := by have := HTA.out.2.2.2; omega
              go_upto_region 26 with (first
                | (at_builtin; refine append_list rfl (.tmp 88) (.tmp 93) rfl w1.heap.size _ [] rfl (oi_none v3 _ hwz) (some ⟨bs, os, none⟩) left d (st.take left) HTA.out.2.2.1.symm rfl (HTA.out.1.below (below_alloc1 _ _)) HTA.out.2.1 (by rw [HTA.out.2.2.1]; simp; omega) (by simp; omega) ?_; intro v4 w4 ho4 hb4; rw [List.nil_append] at ho4; have HO4 := Lib.hid ho4; have HB4 : Hid (Below w1.heap.size w1 w4) := Lib.hid ((HW3.out.alloc hwz _).trans hb4); have hwz4 : w1.heap.size ≤ w4.heap.size := HB4.out.size; clear ho4 hb4)
                | (at_builtin; refine append_one rfl (.tmp 94) (.tmp 96) rfl w1.heap.size _ (st.take left) rfl HO4.out y1 rfl (by have := HTA.out.2.2.1; omega) hwz4 ?_; intro v5 w5 ho5 hb5; obtain ⟨A5, c5, rfl, _⟩ := ho5.form; rw [HLX.out] at ho5 ⊢; have HO5 := Lib.hid ho5; have HB5 : Hid (Below w1.heap.size w1 w5) := Lib.hid (HB4.out.trans hb5); clear ho5 hb5))
              clear EH
              by_cases hdp : 12 < (left : Int) + 1
              · have HE2 : Hid (kindF S e = (0, 12)) := Lib.hid (by rw [HR.out]; exact run_deep HK.out HTK.out HTL.out (by rw [HDR.out]) (by rw [HLL.out]; exact hdp))
                have HRE : Hid ((r1, r2) = ((0 : Int), (12 : Int))) := Lib.hid (HRR.out.symm.trans HE2.out)
                go_wp2
                go_ret2
                exact ⟨by rw [pair_of HRE.out]; rfl, by rw [HBX.out]; exact HB1.out.trans (HB5.out.mono (by have := HB1.out.size; have := HBX.out; omega))⟩
              · have HE2 : Hid (kindF S e = runF (fun _ => nodeK S) 12 (k + 1) (e.drop (k + 1)) (st.take left ++ [y1])) := Lib.hid (by
                  rw [HR.out, run_next HK.out HTK.out HTL.out (by rw [HDR.out]) (by rw [HLL.out]; exact hdp), HDR.out, HLL.out])
                go_wp2
                go_roundw
                case rel => exact ⟨k + 1, left + 1, A5, c5, st.take left ++ [y1], by omega, by go_num, rfl, Lib.hid ⟨HLX.out.symm, fun _ => Nat.succ_pos _⟩, by omega, HO5, HB5, HE2⟩
                case measure => simp [intOf]; omega
            · have hy2 : (y2 != 0) = true := by simpa using hy
              have HE2 : Hid (kindF S e = (0, y2)) := Lib.hid (by rw [HR.out, run_why HK.out HTK.out HTL.out (by rw [HDR.out]; exact hy), HDR.out])
              have HRE : Hid ((r1, r2) = ((0 : Int), y2)) := Lib.hid (HRR.out.symm.trans HE2.out)
              go_wp2
              go_ret2
              exact ⟨by rw [pair_of HRE.out]; rfl, by rw [HBX.out]; exact HB1.out.trans (HW3.out.mono (by have := HB1.out.size; have := HBX.out; omega))⟩
    · obtain rfl : k = m := by omega
      have HE3 : Hid (kindF S e = if n = 0 then (0, 4) else if 1 < n then (0, 5) else (st.getD 0 0, 0)) := Lib.hid (by
        rw [HR.out, List.drop_of_length_le (by rw [HM.out]; exact Nat.le_refl _), runF_end, HN.out])
      have HNZ : Hid (n ≠ 0) := Lib.hid (by
        have := HNP.out.2
        omega)
      by_cases n1 : 1 < n
      · have HRE : Hid ((r1, r2) = ((0 : Int), (5 : Int))) := Lib.hid (HRR.out.symm.trans (HE3.out.trans ((if_neg HNZ.out).trans (if_pos n1))))
        clear hlt
        go_wp2
        go_ret2
        exact ⟨by rw [pair_of HRE.out]; rfl, by rw [HBX.out]; exact HWW.out⟩
      · have hn1 : n = 1 := by have := HNZ.out; omega
        subst hn1
        have HE4 := Lib.hid (HE3.out.trans ((if_neg (by decide)).trans (if_neg n1)))
        obtain ⟨A6, c6, f6, hi6⟩ := HO.out.form
        injection f6 with f6 f7 f8
        subst f6
        clear f7 f8
        obtain ⟨bs, os, rfl, hbs, hcs⟩ := hi6 (by have := HN.out; omega)
        have c3 := hcs 0 (by have := HN.out; omega)
        rw [Nat.add_zero] at c3
        generalize st.getD 0 0 = y at c3 HE4
        have HRE : Hid ((r1, r2) = (y, (0 : Int))) := Lib.hid (HRR.out.symm.trans HE4.out)
        clear hi6 hcs HE3 HE4 n1 hlt
        go_wp2
        go_ret2
        exact ⟨by rw [pair_of HRE.out]; rfl, by rw [HBX.out]; exact HWW.out⟩
end Go.Proofs.YtmnigdphikoljaaGreatDoor
