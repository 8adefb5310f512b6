/- The document's values of nodes that take one part, or none. -/
import Derived.Test.YtjciamefkacchaaExprRefVal
import Derived.IntWalk
import Derived.Deep.RegionHeld3
namespace Go.Proofs.Ytjciamefkacchaa
open Go.ChangeShapes Go.WideShapes Go.ChangeAt Go.RowKit

theorem below2 (w : World) (a b : Obj) : Below w.heap.size w ((w.alloc a).alloc b) := bthen (below_alloc1 _ _) (below_alloc1 _ _)

set_option maxRecDepth 20000 in
set_option maxHeartbeats 4000000 in
theorem refItem_any (X : EvX) (E : Ev) (op n x : Int) (w : World) (h : ER w X E) (hop : op = 3 ∨ op = 9 ∨ op = 10) :
    Calls Try.prog 49 #[.agg #[.int .i64 op, .int .i64 n], .int .i64 x, X.v] w (PairP w (nodeV E (op, n) [x])) := by
  have HS := Lib.hid h
  rcases hop with rfl | rfl | rfl
  · have HP : Hid (nodeV E (3, n) [x] = itemV E.vars n x) := Lib.hid rfl
    rw [HP.out]
    by_cases hn : 0 ≤ n ∧ n < X.n1
    · obtain ⟨k, rfl⟩ : ∃ k : Nat, n = k := ⟨n.toNat, by omega⟩
      have HE : Hid (itemV E.vars k x = if 1 ≤ x ∧ x ≤ (E.vars.getD k []).length then ((E.vars.getD k []).getD (x - 1).toNat 0, 0) else (0, 10)) := Lib.hid (by unfold itemV; rw [if_pos (by rw [← HS.out.l1]; exact hn), Int.toNat_natCast])
      obtain ⟨b, o, ha, hb, hc⟩ := (HS.out.r1.below (below2 w (.cells #[.int .i64 3, .int .i64 k] 77) (.cells #[.slice X.a1 X.n1 X.c1, .slice X.a2 X.n2 X.c2, .slice X.a3 X.n3 X.c3, .slice X.a4 X.n4 X.c4, .int .i64 X.self] 37))) (by rw [← HS.out.l1]; omega)
      obtain ⟨A', c', c1, hrl, hi⟩ := hc k (by rw [← HS.out.l1]; omega)
      have hk : k < X.n1 := by omega
      have HA := Lib.hid ha
      clear hc h hn ha
      generalize E.vars.getD k [] = row at *
      by_cases hx : 1 ≤ x ∧ x ≤ row.length
      · have HE2 := Lib.hid (HE.out.trans (if_pos hx))
        rw [HE2.out]
        obtain ⟨j, hj⟩ : ∃ j : Nat, x = (j : Int) + 1 := ⟨(x - 1).toNat, by omega⟩
        subst hj
        have hjl : j < row.length := by omega
        rw [show ((j : Int) + 1 - 1).toNat = j by omega]
        obtain ⟨b2, o2, rfl, hb2, hc2⟩ := hi (by omega)
        have c2 := hc2 j hjl
        generalize row.getD j 0 = y at *
        clear hc2 hi HE HE2 hx HP
        unfold EvX.v
        go_enter Try.func49, Try.ntmps49
        rw [HA.out] at *
        go_wp2
        go_ret2
        exact ⟨rfl, below2 _ _ _⟩
      · have HE2 := Lib.hid (HE.out.trans (if_neg hx))
        rw [HE2.out]
        clear HE HE2 HP
        by_cases h1 : x < 1
        · clear hx
          unfold EvX.v
          go_enter Try.func49, Try.ntmps49
          rw [HA.out] at *
          go_wp2
          go_ret2
          exact ⟨rfl, below2 _ _ _⟩
        · have h2 : (row.length : Int) < x := by omega
          clear hx
          unfold EvX.v
          go_enter Try.func49, Try.ntmps49
          rw [HA.out] at *
          go_wp2
          go_ret2
          exact ⟨rfl, below2 _ _ _⟩
    · have HE : Hid (itemV E.vars n x = (0, 8)) := Lib.hid (by unfold itemV; rw [if_neg (by rw [← HS.out.l1]; exact hn)])
      rw [HE.out]
      clear HP h
      by_cases h1 : n < 0
      · clear hn
        unfold EvX.v
        go_enter Try.func49, Try.ntmps49
        go_wp2
        go_ret2
        exact ⟨rfl, below2 _ _ _⟩
      · have h2 : (X.n1 : Int) ≤ n := by omega
        clear hn
        unfold EvX.v
        go_enter Try.func49, Try.ntmps49
        go_wp2
        go_ret2
        exact ⟨rfl, below2 _ _ _⟩
  · have HP : Hid (nodeV E (9, n) [x] = (truthZ (x == 0), 0)) := Lib.hid rfl
    rw [HP.out]
    clear h
    unfold EvX.v
    go_enter Try.func49, Try.ntmps49
    go_wp2_with fail
    refine (truth_any _ _).mono ?_
    rintro e w' ⟨rfl, rfl⟩
    go_wp2
    go_ret2
    exact ⟨rfl, below2 _ _ _⟩
  · obtain ⟨q, HQ⟩ : ∃ q, Hid (numSums.told 0 x (0 - x) = q) := ⟨_, Lib.hid rfl⟩
    have HP : Hid (nodeV E (10, n) [x] = hadF (q.getD 0) q.isSome 10) := Lib.hid (by rw [← HQ.out]; rfl)
    rw [HP.out]
    clear h
    unfold EvX.v
    cases q
    all_goals
      go_enter Try.func49, Try.ntmps49
      go_wp2_with fail
      refine (numSums.refSub_any 0 x _).mono ?_
      rw [HQ.out]
      rintro e w' ⟨rfl, rfl⟩
      go_wp2
      go_ret2
      exact ⟨rfl, below2 _ _ _⟩

theorem rowV_at {rows : List (List Int)} {k : Nat} (h : k < rows.length) : rowV rows k = rows.getD k [] := by unfold rowV; rw [if_pos (by omega), Int.toNat_natCast]
theorem rowV_out {rows : List (List Int)} {n : Int} (h : ¬ (0 ≤ n ∧ n < rows.length)) : rowV rows n = [] := by unfold rowV; rw [if_neg h]
theorem cellV_nil (n : Int) : cellV [] n = (0, 8) := cellV_out (fun h => by have h2 := h.2; simp at h2; omega)
theorem tdiv_neg {n : Int} (h : n < 0) : n.tdiv 16 < 0 ∨ (n.tdiv 16 = 0 ∧ n.tmod 16 < 0) := by
  have hq := Int.mul_tdiv_add_tmod n 16
  have h6 : n.tdiv 16 ≤ 0 := by
    have h7 := Int.neg_tdiv n 16
    have h8 : 0 ≤ (-n).tdiv 16 := Int.tdiv_nonneg (by omega) (by omega)
    omega
  by_cases hz : n.tdiv 16 = 0
  · right; rw [hz] at hq; omega
  · left; omega

set_option maxRecDepth 20000 in
set_option maxHeartbeats 4000000 in
theorem refValue_any (X : EvX) (E : Ev) (op n : Int) (ps : List Int) (w : World) (h : ER w X E) (hop : 1 ≤ op ∧ op ≤ 8 ∧ op ≠ 3) (hn : -9223372036854775808 ≤ n ∧ n ≤ 9223372036854775807) :
    Calls Try.prog 48 #[.agg #[.int .i64 op, .int .i64 n], X.v] w (PairP w (nodeV E (op, n) ps)) := by
  have HS := Lib.hid h
  have hc : op = 1 ∨ op = 2 ∨ op = 4 ∨ op = 5 ∨ op = 6 ∨ op = 7 ∨ op = 8 := by omega
  obtain ⟨n1, n2⟩ := hn
  clear hop
  rcases hc with rfl | rfl | rfl | rfl | rfl | rfl | rfl
  · clear h
    by_cases h1 : n < -1048576
    · have HP : Hid (nodeV E (1, n) ps = (0, 10)) := Lib.hid (by show hadF n (fitB n (-1048576) 1048576) 10 = _; rw [show fitB n (-1048576) 1048576 = false from decide_eq_false (by omega)]; rfl)
      rw [HP.out]
      unfold EvX.v
      go_enter Try.func48, Try.ntmps48
      go_wp2
      go_ret2
      exact ⟨rfl, below2 _ _ _⟩
    · by_cases h2 : 1048576 < n
      · have HP : Hid (nodeV E (1, n) ps = (0, 10)) := Lib.hid (by show hadF n (fitB n (-1048576) 1048576) 10 = _; rw [show fitB n (-1048576) 1048576 = false from decide_eq_false (by omega)]; rfl)
        rw [HP.out]
        unfold EvX.v
        go_enter Try.func48, Try.ntmps48
        go_wp2
        go_ret2
        exact ⟨rfl, below2 _ _ _⟩
      · have HP : Hid (nodeV E (1, n) ps = (n, 0)) := Lib.hid (by show hadF n (fitB n (-1048576) 1048576) 10 = _; rw [show fitB n (-1048576) 1048576 = true from decide_eq_true (by omega)]; rfl)
        rw [HP.out]
        unfold EvX.v
        go_enter Try.func48, Try.ntmps48
        go_wp2
        go_ret2
        exact ⟨rfl, below2 _ _ _⟩
  · by_cases hn : 0 ≤ n ∧ n < X.n1
    · obtain ⟨k, rfl⟩ : ∃ k : Nat, n = k := ⟨n.toNat, by omega⟩
      have HP : Hid (nodeV E (2, (k : Int)) ps = cellV (E.vars.getD k []) 0) := Lib.hid (by show cellV (rowV E.vars k) 0 = _; rw [rowV_at (by rw [← HS.out.l1]; omega)])
      rw [HP.out]
      obtain ⟨b, o, ha, hb, hc⟩ := (HS.out.r1.below (below2 w (.cells #[.int .i64 2, .int .i64 k] 77) (.cells #[.slice X.a1 X.n1 X.c1, .slice X.a2 X.n2 X.c2, .slice X.a3 X.n3 X.c3, .slice X.a4 X.n4 X.c4, .int .i64 X.self] 37))) (by rw [← HS.out.l1]; omega)
      obtain ⟨A', c', c1, hrl, hi⟩ := hc k (by rw [← HS.out.l1]; omega)
      have hk : k < X.n1 := by omega
      have HA := Lib.hid ha
      have HI := Lib.hid hi
      clear hc h hn ha hi
      generalize E.vars.getD k [] = row at *
      by_cases h0 : 0 < row.length
      · have HC : Hid (cellV row 0 = ((cellV row 0).1, 0)) := Lib.hid (cellV_in (by omega))
        have HD : Hid (decide ((0 : Int) ≤ 0 ∧ (0 : Int) < row.length) = true) := Lib.hid (decide_eq_true (by omega))
        rw [HC.out]
        unfold EvX.v
        go_enter Try.func48, Try.ntmps48
        rw [HA.out] at *
        go_wp2_with fail
        refine (at_any A' c' _ 0 row _ rfl HI.out).mono ?_
        rw [HD.out]
        rintro e w' ⟨rfl, rfl⟩
        generalize (cellV row 0).1 = y at *
        go_wp2
        go_ret2
        exact ⟨rfl, below2 _ _ _⟩
      · have HC : Hid (cellV row 0 = (0, 8)) := Lib.hid (cellV_out (by omega))
        have HD : Hid (decide ((0 : Int) ≤ 0 ∧ (0 : Int) < row.length) = false) := Lib.hid (decide_eq_false (by omega))
        unfold EvX.v
        go_enter Try.func48, Try.ntmps48
        rw [HA.out] at *
        go_wp2_with fail
        refine (at_any A' c' _ 0 row _ rfl HI.out).mono ?_
        rw [HD.out, HC.out]
        rintro e w' ⟨rfl, rfl⟩
        go_wp2
        go_ret2
        exact ⟨by rw [HC.out]; rfl, below2 _ _ _⟩
    · have HP : Hid (nodeV E (2, n) ps = (0, 8)) := Lib.hid (by show cellV (rowV E.vars n) 0 = _; rw [rowV_out (by rw [← HS.out.l1]; exact hn)]; exact cellV_nil 0)
      rw [HP.out]
      clear h
      by_cases h1 : n < 0
      · clear hn
        unfold EvX.v
        go_enter Try.func48, Try.ntmps48
        go_wp2
        go_ret2
        exact ⟨rfl, below2 _ _ _⟩
      · have h2 : (X.n1 : Int) ≤ n := by omega
        clear hn
        unfold EvX.v
        go_enter Try.func48, Try.ntmps48
        go_wp2
        go_ret2
        exact ⟨rfl, below2 _ _ _⟩
  · have HP : Hid (nodeV E (4, n) ps = cellV E.locals n) := Lib.hid rfl
    rw [HP.out]
    clear h
    by_cases hn : 0 ≤ n ∧ n < X.n3
    · have HC : Hid (cellV E.locals n = ((cellV E.locals n).1, 0)) := Lib.hid (cellV_in (by rw [← HS.out.l3]; exact hn))
      have HD : Hid (decide (0 ≤ n ∧ n < (X.n3 : Int)) = true) := Lib.hid (decide_eq_true hn)
      rw [HC.out]
      clear hn
      unfold EvX.v
      go_enter Try.func48, Try.ntmps48
      go_wp2_with fail
      refine (at_any _ _ _ n E.locals _ HS.out.l3 (HS.out.r3.below (below2 _ _ _))).mono ?_
      rw [HD.out]
      rintro e w' ⟨rfl, rfl⟩
      generalize (cellV E.locals n).1 = y at *
      go_wp2
      go_ret2
      exact ⟨rfl, below2 _ _ _⟩
    · have HC : Hid (cellV E.locals n = (0, 8)) := Lib.hid (cellV_out (by rw [← HS.out.l3]; exact hn))
      have HD : Hid (decide (0 ≤ n ∧ n < (X.n3 : Int)) = false) := Lib.hid (decide_eq_false hn)
      clear hn
      unfold EvX.v
      go_enter Try.func48, Try.ntmps48
      go_wp2_with fail
      refine (at_any _ _ _ n E.locals _ HS.out.l3 (HS.out.r3.below (below2 _ _ _))).mono ?_
      rw [HD.out, HC.out]
      rintro e w' ⟨rfl, rfl⟩
      go_wp2
      go_ret2
      exact ⟨by rw [HC.out]; rfl, below2 _ _ _⟩
  · have HP : Hid (nodeV E (5, n) ps = (X.self, 0)) := Lib.hid (by rw [HS.out.self]; rfl)
    rw [HP.out]
    clear h
    unfold EvX.v
    go_enter Try.func48, Try.ntmps48
    go_wp2
    go_ret2
    exact ⟨rfl, below2 _ _ _⟩
  · have HP : Hid (nodeV E (6, n) ps = cellV E.lens n) := Lib.hid rfl
    rw [HP.out]
    clear h
    by_cases hn : 0 ≤ n ∧ n < X.n2
    · have HC : Hid (cellV E.lens n = ((cellV E.lens n).1, 0)) := Lib.hid (cellV_in (by rw [← HS.out.l2]; exact hn))
      have HD : Hid (decide (0 ≤ n ∧ n < (X.n2 : Int)) = true) := Lib.hid (decide_eq_true hn)
      rw [HC.out]
      clear hn
      unfold EvX.v
      go_enter Try.func48, Try.ntmps48
      go_wp2_with fail
      refine (at_any _ _ _ n E.lens _ HS.out.l2 (HS.out.r2.below (below2 _ _ _))).mono ?_
      rw [HD.out]
      rintro e w' ⟨rfl, rfl⟩
      generalize (cellV E.lens n).1 = y at *
      go_wp2
      go_ret2
      exact ⟨rfl, below2 _ _ _⟩
    · have HC : Hid (cellV E.lens n = (0, 8)) := Lib.hid (cellV_out (by rw [← HS.out.l2]; exact hn))
      have HD : Hid (decide (0 ≤ n ∧ n < (X.n2 : Int)) = false) := Lib.hid (decide_eq_false hn)
      clear hn
      unfold EvX.v
      go_enter Try.func48, Try.ntmps48
      go_wp2_with fail
      refine (at_any _ _ _ n E.lens _ HS.out.l2 (HS.out.r2.below (below2 _ _ _))).mono ?_
      rw [HD.out, HC.out]
      rintro e w' ⟨rfl, rfl⟩
      go_wp2
      go_ret2
      exact ⟨by rw [HC.out]; rfl, below2 _ _ _⟩
  · by_cases h0 : 0 ≤ n
    · obtain ⟨d, HD0⟩ : ∃ d : Nat, Hid (n / 16 = d) := ⟨(n / 16).toNat, Lib.hid (by omega)⟩
      obtain ⟨r, HR0⟩ : ∃ r : Nat, Hid (n % 16 = r) := ⟨(n % 16).toNat, Lib.hid (by omega)⟩
      have HQ0 : Hid (n.tdiv 16 = d) := Lib.hid ((Int.tdiv_eq_ediv_of_nonneg h0).trans HD0.out)
      have HM0 : Hid (n.tmod 16 = r) := Lib.hid ((Int.tmod_eq_emod_of_nonneg h0).trans HR0.out)
      have HP0 : Hid (nodeV E (7, n) ps = cellV (rowV E.at_ d) r) := Lib.hid (by show cellV (rowV E.at_ (n.tdiv 16)) (n.tmod 16) = _; rw [HQ0.out, HM0.out])
      by_cases hd : d < X.n4
      · have HP : Hid (nodeV E (7, n) ps = cellV (E.at_.getD d []) r) := Lib.hid (by rw [HP0.out, rowV_at (by rw [← HS.out.l4]; exact hd)])
        rw [HP.out]
        obtain ⟨b, o, ha, hb, hc⟩ := (HS.out.r4.below (below2 w (.cells #[.int .i64 7, .int .i64 n] 77) (.cells #[.slice X.a1 X.n1 X.c1, .slice X.a2 X.n2 X.c2, .slice X.a3 X.n3 X.c3, .slice X.a4 X.n4 X.c4, .int .i64 X.self] 37))) (by rw [← HS.out.l4]; omega)
        obtain ⟨A', c', c1, hrl, hi⟩ := hc d (by rw [← HS.out.l4]; exact hd)
        have HA := Lib.hid ha
        have HI := Lib.hid hi
        have hdq : (d : Int) < (X.n4 : Int) := by omega
        clear hc h ha hi
        generalize E.at_.getD d [] = row at *
        by_cases hr : r < row.length
        · have HC : Hid (cellV row r = ((cellV row r).1, 0)) := Lib.hid (cellV_in (by omega))
          have HD : Hid (decide (r < row.length) = true) := Lib.hid (decide_eq_true (by omega))
          rw [HC.out]
          clear hr
          unfold EvX.v
          go_enter Try.func48, Try.ntmps48
          have q1 := HD0.out
          have q2 := HR0.out
          have q3 := HQ0.out
          have q4 := HM0.out
          have q5 : IntKind.i64.wrap (d : Int) = (d : Int) := IntWalk.i64_in _ (by omega)
          have q6 : IntKind.i64.wrap (r : Int) = (r : Int) := IntWalk.i64_in _ (by omega)
          have q7 : (0 : Int) ≤ (d : Int) := by omega
          rw [HA.out] at *
          go_wp2
          obtain ⟨w2, HW2, x1, x2, x3, HB2⟩ : ∃ w2, w2 = (w.alloc (.cells #[.int .i64 7, .int .i64 n] 77)).alloc (.cells #[.slice X.a1 X.n1 X.c1, .slice X.a2 X.n2 X.c2, .slice X.a3 X.n3 X.c3, .slice (some ⟨b, o, none⟩) X.n4 X.c4, .int .i64 X.self] 37) ∧
              w2.cell? ⟨w.heap.size + 1, 3, none⟩ = some (.slice (some ⟨b, o, none⟩) X.n4 X.c4) ∧ w2.cell? ⟨w.heap.size, 1, none⟩ = some (.int .i64 n) ∧ w2.cell? ⟨b, o + d, none⟩ = some (.slice A' row.length c') ∧ Hid (Below w.heap.size w w2) :=
            ⟨_, rfl, World.cell?_alloc_at _ _ _ _ (by simp), (World.cell?_alloc_past _ _ _ (by simp)).trans (World.cell?_alloc_at _ _ _ _ rfl), c1, Lib.hid (below2 w _ _)⟩
          have HI2 : Hid (IA w2 A' row) := Lib.hid (by rw [HW2]; exact HI.out)
          rw [← HW2]
          clear HW2 c1
          generalize hbx : w.heap.size = hz at *
          have HBX := Lib.hid hbx
          clear hbx
          go_region_held3 (fun w' => w'.cell? ⟨hz + 1, 3, none⟩ = some (.slice (some ⟨b, o, none⟩) X.n4 X.c4) ∧ w'.cell? ⟨hz, 1, none⟩ = some (.int .i64 n) ∧ w'.cell? ⟨b, o + d, none⟩ = some (.slice A' row.length c'))
            (first | exact ⟨x1, x2, x3⟩ | go_keep)
            ((go_at_call 103; refine (at_any A' c' row.length r row _ rfl (show IA w2.drew A' row from HI2.out)).mono ?_; rintro x w3 ⟨rfl, rfl⟩))
          rw [HD.out]
          clear q1 q2 q3 q4 q5 q6 q7
          generalize (cellV row r).1 = y at *
          go_wp2
          go_ret2
          refine ⟨rfl, ?_⟩
          rw [HBX.out]
          exact HB2.out.drew
        · have HC : Hid (cellV row r = (0, 8)) := Lib.hid (cellV_out (by omega))
          have HD : Hid (decide (r < row.length) = false) := Lib.hid (decide_eq_false (by omega))
          rw [HC.out]
          clear hr
          unfold EvX.v
          go_enter Try.func48, Try.ntmps48
          have q1 := HD0.out
          have q2 := HR0.out
          have q3 := HQ0.out
          have q4 := HM0.out
          have q5 : IntKind.i64.wrap (d : Int) = (d : Int) := IntWalk.i64_in _ (by omega)
          have q6 : IntKind.i64.wrap (r : Int) = (r : Int) := IntWalk.i64_in _ (by omega)
          have q7 : (0 : Int) ≤ (d : Int) := by omega
          rw [HA.out] at *
          go_wp2
          obtain ⟨w2, HW2, x1, x2, x3, HB2⟩ : ∃ w2, w2 = (w.alloc (.cells #[.int .i64 7, .int .i64 n] 77)).alloc (.cells #[.slice X.a1 X.n1 X.c1, .slice X.a2 X.n2 X.c2, .slice X.a3 X.n3 X.c3, .slice (some ⟨b, o, none⟩) X.n4 X.c4, .int .i64 X.self] 37) ∧
              w2.cell? ⟨w.heap.size + 1, 3, none⟩ = some (.slice (some ⟨b, o, none⟩) X.n4 X.c4) ∧ w2.cell? ⟨w.heap.size, 1, none⟩ = some (.int .i64 n) ∧ w2.cell? ⟨b, o + d, none⟩ = some (.slice A' row.length c') ∧ Hid (Below w.heap.size w w2) :=
            ⟨_, rfl, World.cell?_alloc_at _ _ _ _ (by simp), (World.cell?_alloc_past _ _ _ (by simp)).trans (World.cell?_alloc_at _ _ _ _ rfl), c1, Lib.hid (below2 w _ _)⟩
          have HI2 : Hid (IA w2 A' row) := Lib.hid (by rw [HW2]; exact HI.out)
          rw [← HW2]
          clear HW2 c1
          generalize hbx : w.heap.size = hz at *
          have HBX := Lib.hid hbx
          clear hbx
          go_region_held3 (fun w' => w'.cell? ⟨hz + 1, 3, none⟩ = some (.slice (some ⟨b, o, none⟩) X.n4 X.c4) ∧ w'.cell? ⟨hz, 1, none⟩ = some (.int .i64 n) ∧ w'.cell? ⟨b, o + d, none⟩ = some (.slice A' row.length c'))
            (first | exact ⟨x1, x2, x3⟩ | go_keep)
            ((go_at_call 103; refine (at_any A' c' row.length r row _ rfl (show IA w2.drew A' row from HI2.out)).mono ?_; rintro x w3 ⟨rfl, rfl⟩))
          rw [HD.out]
          clear q1 q2 q3 q4 q5 q6 q7
          generalize (cellV row r).1 = y at *
          go_wp2
          go_ret2
          refine ⟨rfl, ?_⟩
          rw [HBX.out]
          exact HB2.out.drew
      · have HP : Hid (nodeV E (7, n) ps = (0, 8)) := Lib.hid (by rw [HP0.out, rowV_out (by rw [← HS.out.l4]; omega)]; exact cellV_nil _)
        rw [HP.out]
        have h2 : (X.n4 : Int) ≤ n / 16 := by rw [HD0.out]; omega
        clear h hd
        unfold EvX.v
        go_enter Try.func48, Try.ntmps48
        go_wp2
        go_ret2
        exact ⟨rfl, below2 _ _ _⟩
    · have HP : Hid (nodeV E (7, n) ps = (0, 8)) := Lib.hid (by
        show cellV (rowV E.at_ (n.tdiv 16)) (n.tmod 16) = _
        rcases tdiv_neg (show n < 0 by omega) with h1 | ⟨_, h1⟩
        · rw [rowV_out (by omega)]; exact cellV_nil _
        · exact cellV_out (by omega))
      rw [HP.out]
      clear h
      unfold EvX.v
      go_enter Try.func48, Try.ntmps48
      go_wp2
      go_ret2
      exact ⟨rfl, below2 _ _ _⟩
  · clear h
    unfold EvX.v
    go_enter Try.func48, Try.ntmps48
    go_wp2
    go_ret2
    exact ⟨rfl, below2 _ _ _⟩
end Go.Proofs.Ytjciamefkacchaa
