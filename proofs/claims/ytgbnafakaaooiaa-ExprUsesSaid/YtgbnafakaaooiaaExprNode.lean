/- The program's kind of a node, by what a scope is. -/
import Derived.Test.YtgbnafakaaooiaaExprPut
namespace Go.Proofs.Ytgbnafakaaooiaa
open Go.ChangeShapes Go.WideShapes Go.ChangeAt Go.RowKit

set_option maxRecDepth 20000 in
set_option maxHeartbeats 4000000 in
theorem kind_leaf (X : ScX) (S : Sc) (op n t p1 p2 : Int) (fv : Value) (A : Option Addr) (c m : Nat) (ps : List Int) (w : World) (h : SR w X S) (hop : 1 ≤ op ∧ op ≤ 8 ∧ op ≠ 3) (hn : -9223372036854775808 ≤ n ∧ n ≤ 9223372036854775807) (hf : fv = .nilFunc) :
    Calls Try.prog 17 #[X.v, .agg #[.int .i64 op, .int .i64 n], .agg #[.int .i64 t, .int .i64 p1, .int .i64 p2, fv], .slice A m c] w (PairP w (nodeK S (op, n) ps)) := by
  subst hf
  have HS := Lib.hid h
  have HN := Lib.hid hn
  have hc : op = 1 ∨ op = 2 ∨ op = 4 ∨ op = 5 ∨ op = 6 ∨ op = 7 ∨ op = 8 := by omega
  clear h hop hn
  rcases hc with rfl | rfl | rfl | rfl | rfl | rfl | rfl
  · obtain ⟨a, b, HE⟩ : ∃ a b, Hid (hadF n (fitB n (-1048576) 1048576) 10 = (a, b)) := ⟨_, _, Lib.hid rfl⟩
    have HP : Hid (nodeK S (1, n) ps = (0, b)) := Lib.hid (by unfold nodeK; simp only [HE.out]; rfl)
    unfold ScX.v
    go_enter Try.func17, Try.ntmps17
    go_wp2_with fail
    refine (literal_any n _).mono ?_
    rintro e w' ⟨rfl, rfl⟩
    rw [HE.out]
    go_wp2
    go_ret2
    exact ⟨by rw [HP.out]; rfl, bthen (bthen (below_alloc1 _ _) (below_alloc1 _ _)) (below_alloc1 _ _)⟩
  · obtain ⟨a, b, HE⟩ : ∃ a b, Hid (plainK X.n1 S.vars n = (a, b)) := ⟨_, _, Lib.hid rfl⟩
    have HP : Hid (nodeK S (2, n) ps = (a, b)) := Lib.hid (by unfold nodeK; rw [← HS.out.l1]; exact HE.out)
    unfold ScX.v
    go_enter Try.func17, Try.ntmps17
    go_wp2_with fail
    refine (plain_any X _ _ _ S.vars n _ HS.out.small HS.out.l2 (HS.out.r2.below (bthen (bthen (below_alloc1 _ _) (below_alloc1 _ _)) (below_alloc1 _ _)))).mono ?_
    rintro e w1 ⟨rfl, hb1⟩
    rw [HE.out]
    have HB1 : Hid (Below w.heap.size w w1) := Lib.hid (bthen (bthen (bthen (below_alloc1 _ _) (below_alloc1 _ _)) (below_alloc1 _ _)) hb1)
    clear hb1
    go_wp2
    go_ret2
    exact ⟨by rw [HP.out]; rfl, HB1.out⟩
  · obtain ⟨a, b, HE⟩ : ∃ a b, Hid (plainK X.n1 S.locals n = (a, b)) := ⟨_, _, Lib.hid rfl⟩
    have HP : Hid (nodeK S (4, n) ps = (a, b)) := Lib.hid (by unfold nodeK; rw [← HS.out.l1]; exact HE.out)
    unfold ScX.v
    go_enter Try.func17, Try.ntmps17
    go_wp2_with fail
    refine (plain_any X _ _ _ S.locals n _ HS.out.small HS.out.l5 (HS.out.r5.below (bthen (bthen (below_alloc1 _ _) (below_alloc1 _ _)) (below_alloc1 _ _)))).mono ?_
    rintro e w1 ⟨rfl, hb1⟩
    rw [HE.out]
    have HB1 : Hid (Below w.heap.size w w1) := Lib.hid (bthen (bthen (bthen (below_alloc1 _ _) (below_alloc1 _ _)) (below_alloc1 _ _)) hb1)
    clear hb1
    go_wp2
    go_ret2
    exact ⟨by rw [HP.out]; rfl, HB1.out⟩
  · by_cases hs : 1 ≤ X.self ∧ X.self ≤ X.n1
    · have HP : Hid (nodeK S (5, n) ps = (1 + X.self, 0)) := Lib.hid (by unfold nodeK; rw [← HS.out.l1, ← HS.out.self]; exact if_pos hs)
      unfold ScX.v
      go_enter Try.func17, Try.ntmps17
      go_wp2_with fail
      refine (element_yes X X.self _ hs.1 hs.2 HS.out.small).mono ?_
      rintro e w1 ⟨rfl, hb1⟩
      have HB1 : Hid (Below w.heap.size w w1) := Lib.hid (bthen (bthen (bthen (below_alloc1 _ _) (below_alloc1 _ _)) (below_alloc1 _ _)) hb1)
      clear hb1
      go_wp2_with fail
      refine (had_any _ _ _ _).mono ?_
      rintro e w' ⟨rfl, rfl⟩
      go_wp2
      go_ret2
      exact ⟨by rw [HP.out]; rfl, HB1.out⟩
    · have HP : Hid (nodeK S (5, n) ps = (0, 8)) := Lib.hid (by unfold nodeK; rw [← HS.out.l1, ← HS.out.self]; exact if_neg hs)
      have HH := Lib.hid hs
      clear hs
      unfold ScX.v
      go_enter Try.func17, Try.ntmps17
      go_wp2_with fail
      refine (element_no X X.self _ (by have := HH.out; omega)).mono ?_
      rintro e w1 ⟨rfl, hb1⟩
      have HB1 : Hid (Below w.heap.size w w1) := Lib.hid (bthen (bthen (bthen (below_alloc1 _ _) (below_alloc1 _ _)) (below_alloc1 _ _)) hb1)
      clear hb1
      go_wp2_with fail
      refine (had_any _ _ _ _).mono ?_
      rintro e w' ⟨rfl, rfl⟩
      go_wp2
      go_ret2
      exact ⟨by rw [HP.out]; rfl, HB1.out⟩
  · obtain ⟨x, HX⟩ : ∃ x, Hid (chanB X.n1 S.chans n = x) := ⟨_, Lib.hid rfl⟩
    obtain ⟨a, b, HE⟩ : ∃ a b, Hid (hadF 0 x 8 = (a, b)) := ⟨_, _, Lib.hid rfl⟩
    have HP : Hid (nodeK S (6, n) ps = (a, b)) := Lib.hid (by unfold nodeK; rw [← HS.out.l1, ← HE.out, ← HX.out]; rfl)
    unfold ScX.v
    go_enter Try.func17, Try.ntmps17
    go_wp2_with fail
    refine (hasChan_any X S.chans n _ HS.out.small HS.out.l3 (HS.out.r3.below (bthen (bthen (below_alloc1 _ _) (below_alloc1 _ _)) (below_alloc1 _ _)))).mono ?_
    rintro e w1 ⟨rfl, hb1⟩
    rw [HX.out]
    have HB1 : Hid (Below w.heap.size w w1) := Lib.hid (bthen (bthen (bthen (below_alloc1 _ _) (below_alloc1 _ _)) (below_alloc1 _ _)) hb1)
    clear hb1
    go_wp2_with fail
    refine (had_any _ _ _ _).mono ?_
    rintro e w' ⟨rfl, rfl⟩
    rw [HE.out]
    go_wp2
    go_ret2
    exact ⟨by rw [HP.out]; rfl, HB1.out⟩
  · obtain ⟨x, HX⟩ : ∃ x, Hid (locB S.procs n = x) := ⟨_, Lib.hid rfl⟩
    obtain ⟨a, b, HE⟩ : ∃ a b, Hid (hadF 0 x 8 = (a, b)) := ⟨_, _, Lib.hid rfl⟩
    have HP : Hid (nodeK S (7, n) ps = (a, b)) := Lib.hid (by unfold nodeK; rw [← HE.out, ← HX.out]; rfl)
    unfold ScX.v
    go_enter Try.func17, Try.ntmps17
    go_wp2_with fail
    refine (hasLoc_any X S.procs n _ HS.out.l4 (HS.out.r4.below (bthen (bthen (below_alloc1 _ _) (below_alloc1 _ _)) (below_alloc1 _ _))) HN.out).mono ?_
    rintro e w1 ⟨rfl, hb1⟩
    rw [HX.out]
    have HB1 : Hid (Below w.heap.size w w1) := Lib.hid (bthen (bthen (bthen (below_alloc1 _ _) (below_alloc1 _ _)) (below_alloc1 _ _)) hb1)
    clear hb1
    go_wp2_with fail
    refine (had_any _ _ _ _).mono ?_
    rintro e w' ⟨rfl, rfl⟩
    rw [HE.out]
    go_wp2
    go_ret2
    exact ⟨by rw [HP.out]; rfl, HB1.out⟩
  · obtain ⟨a, b, HE⟩ : ∃ a b, Hid (noneK X.n1 n = (a, b)) := ⟨_, _, Lib.hid rfl⟩
    have HP : Hid (nodeK S (8, n) ps = (a, b)) := Lib.hid (by unfold nodeK; rw [← HS.out.l1]; exact HE.out)
    unfold ScX.v
    go_enter Try.func17, Try.ntmps17
    go_wp2_with fail
    refine (none_any X S.sizes n _ HS.out.small HS.out.l1 (HS.out.r1.below (bthen (bthen (below_alloc1 _ _) (below_alloc1 _ _)) (below_alloc1 _ _)))).mono ?_
    rintro e w1 ⟨rfl, hb1⟩
    rw [HE.out]
    have HB1 : Hid (Below w.heap.size w w1) := Lib.hid (bthen (bthen (bthen (below_alloc1 _ _) (below_alloc1 _ _)) (below_alloc1 _ _)) hb1)
    clear hb1
    go_wp2
    go_ret2
    exact ⟨by rw [HP.out]; rfl, HB1.out⟩

set_option maxRecDepth 20000 in
set_option maxHeartbeats 4000000 in
theorem kind_op (X : ScX) (S : Sc) (op n t : Int) (fv : Value) (A : Option Addr) (c m : Nat) (ps : List Int) (w : World) (hop : 9 ≤ op) (hm : m = ps.length) (hA : IA w A ps) (h1 : 0 < m) (h2 : m ≤ 1000) (hf : ∃ g lb, fv = .func (.func g) #[] lb) :
    Calls Try.prog 17 #[X.v, .agg #[.int .i64 op, .int .i64 n], .agg #[.int .i64 t, .int .i64 (opOf op), .int .i64 (opTo op), fv], .slice A m c] w (PairP w (nodeK S (op, n) ps)) := by
  have HM := Lib.hid hm
  have HA := Lib.hid hA
  obtain ⟨a, b, HE⟩ : ∃ a b, Hid (opK op ps = (a, b)) := ⟨_, _, Lib.hid rfl⟩
  have HP : Hid (nodeK S (op, n) ps = (a, b)) := Lib.hid (by
    unfold nodeK
    rw [if_neg (by show ¬ op = 1; omega), if_neg (by show ¬ op = 2; omega), if_neg (by show ¬ op = 3; omega), if_neg (by show ¬ op = 4; omega), if_neg (by show ¬ op = 5; omega), if_neg (by show ¬ op = 6; omega), if_neg (by show ¬ op = 7; omega), if_neg (by show ¬ op = 8; omega)]
    exact HE.out)
  have k1 : ¬ op = 1 := by omega
  have k2 : ¬ op = 2 := by omega
  have k3 : ¬ op = 3 := by omega
  have k4 : ¬ op = 4 := by omega
  have k5 : ¬ op = 5 := by omega
  have k6 : ¬ op = 6 := by omega
  have k7 : ¬ op = 7 := by omega
  have k8 : ¬ op = 8 := by omega
  obtain ⟨g, lb, rfl⟩ := hf
  have HC := Lib.hid (fun (W : World) (hW : Below w.heap.size w W) => opKind_any t op (.func (.func g) #[] lb) A c m ps W HM.out (HA.out.below hW) h1 h2 (.inr ⟨g, lb, rfl⟩))
  generalize opOf op = p1 at *
  generalize opTo op = p2 at *
  clear hm hA
  unfold ScX.v
  go_enter Try.func17, Try.ntmps17
  go_wp2_with fail
  refine (HC.out _ (bthen (bthen (below_alloc1 _ _) (below_alloc1 _ _)) (below_alloc1 _ _))).mono ?_
  rintro e w1 ⟨rfl, hb1⟩
  rw [HE.out]
  have HB1 : Hid (Below w.heap.size w w1) := Lib.hid (bthen (bthen (bthen (below_alloc1 _ _) (below_alloc1 _ _)) (below_alloc1 _ _)) hb1)
  clear hb1
  go_wp2
  go_ret2
  exact ⟨by rw [HP.out]; rfl, HB1.out⟩
end Go.Proofs.Ytgbnafakaaooiaa
