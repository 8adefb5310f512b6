/- The document's kinds of nodes that take one part, or two. -/
import Derived.Test.YtjciamefkacchaaExprRefVar
namespace Go.Proofs.Ytjciamefkacchaa
open Go.ChangeShapes Go.WideShapes Go.ChangeAt Go.RowKit

theorem opK_one (op k : Int) : opK op [k] = if k == (if opOf op = -1 then k else opOf op) then (opTo op, 0) else (0, 9) := by
  unfold opK
  simp
set_option maxRecDepth 20000 in
set_option maxHeartbeats 4000000 in
theorem refTwo_any (op a b : Int) (w : World) (h : 11 ≤ op ∧ op ≤ 19) : Calls Try.prog 46 #[.int .i64 op, .int .i64 a, .int .i64 b] w (PairP w (opK op [a, b])) := by
  have hc : op = 11 ∨ op = 12 ∨ op = 13 ∨ op = 14 ∨ op = 15 ∨ op = 16 ∨ op = 17 ∨ op = 18 ∨ op = 19 := by omega
  clear h
  by_cases hab : a = b
  · subst hab
    rcases hc with rfl | rfl | rfl | rfl | rfl | rfl | rfl | rfl | rfl
    case inr.inr.inr.inl | inr.inr.inr.inr.inl =>
      generalize hz : opK _ [a, a] = z
      obtain rfl : z = (1, 0) := by rw [← hz]; unfold opK opOf opTo; simp
      clear hz
      go_enter Try.func46, Try.ntmps46
      go_wp2
      go_ret2
      exact ⟨rfl, Below.refl _ _⟩
    case inl | inr.inl | inr.inr.inl =>
      by_cases h0 : a = 0
      · subst h0
        generalize hz : opK _ [0, 0] = z
        obtain rfl : z = (0, 0) := by rw [← hz]; unfold opK opOf opTo; simp
        clear hz
        go_enter Try.func46, Try.ntmps46
        go_wp2
        go_ret2
        exact ⟨rfl, Below.refl _ _⟩
      · have h00 : (a == 0) = false := by simpa using h0
        generalize hz : opK _ [a, a] = z
        obtain rfl : z = (0, 9) := by rw [← hz]; unfold opK opOf opTo; simp [h0]
        clear hz
        go_enter Try.func46, Try.ntmps46
        go_wp2
        go_ret2
        exact ⟨rfl, Below.refl _ _⟩
    case inr.inr.inr.inr.inr.inl | inr.inr.inr.inr.inr.inr.inl =>
      by_cases h0 : a = 0
      · subst h0
        generalize hz : opK _ [0, 0] = z
        obtain rfl : z = (1, 0) := by rw [← hz]; unfold opK opOf opTo; simp
        clear hz
        go_enter Try.func46, Try.ntmps46
        go_wp2
        go_ret2
        exact ⟨rfl, Below.refl _ _⟩
      · have h00 : (a == 0) = false := by simpa using h0
        generalize hz : opK _ [a, a] = z
        obtain rfl : z = (0, 9) := by rw [← hz]; unfold opK opOf opTo; simp [h0]
        clear hz
        go_enter Try.func46, Try.ntmps46
        go_wp2
        go_ret2
        exact ⟨rfl, Below.refl _ _⟩
    all_goals
      by_cases h0 : a = 1
      · subst h0
        generalize hz : opK _ [1, 1] = z
        obtain rfl : z = (1, 0) := by rw [← hz]; unfold opK opOf opTo; simp
        clear hz
        go_enter Try.func46, Try.ntmps46
        go_wp2
        go_ret2
        exact ⟨rfl, Below.refl _ _⟩
      · have h00 : (a == 1) = false := by simpa using h0
        generalize hz : opK _ [a, a] = z
        obtain rfl : z = (0, 9) := by rw [← hz]; unfold opK opOf opTo; simp [h0]
        clear hz
        go_enter Try.func46, Try.ntmps46
        go_wp2
        go_ret2
        exact ⟨rfl, Below.refl _ _⟩
  · have h00 : (a != b) = true := by simpa using hab
    have hba : ¬ b = a := fun e => hab e.symm
    have HE : Hid (opK op [a, b] = (0, 9)) := Lib.hid (by
      unfold opK
      rw [if_neg]
      intro hall
      simp only [List.all_cons, List.all_nil, Bool.and_true, Bool.and_eq_true, beq_iff_eq] at hall
      obtain ⟨h1, h2⟩ := hall
      exact hab (h1.trans h2.symm))
    rw [HE.out]
    clear hc
    go_enter Try.func46, Try.ntmps46
    go_wp2
    go_ret2
    exact ⟨rfl, Below.refl _ _⟩

theorem belowN2 (w : World) (a b : Obj) : Below w.heap.size w ((w.alloc a).alloc b) := bthen (below_alloc1 _ _) (below_alloc1 _ _)
set_option maxRecDepth 20000 in
set_option maxHeartbeats 4000000 in
theorem refOne_any (X : ScX) (S : Sc) (op n k : Int) (w : World) (h : SR w X S) (hop : op = 3 ∨ op = 9 ∨ op = 10) :
    Calls Try.prog 45 #[.agg #[.int .i64 op, .int .i64 n], .int .i64 k, X.v] w (PairP w (nodeK S (op, n) [k])) := by
  have HS := Lib.hid h
  have hn1 := h.small
  rcases hop with rfl | rfl | rfl
  · have HP : Hid (nodeK S (3, n) [k] = itemK X.n1 S.vars n k) := Lib.hid (by rw [HS.out.l1]; rfl)
    rw [HP.out]
    clear h
    cases hv : varK X.n1 S.vars n with
    | none =>
      have HE : Hid (itemK X.n1 S.vars n k = (0, 8)) := Lib.hid (by unfold itemK; rw [hv])
      rw [HE.out]
      have HV := Lib.hid hv
      clear hv
      unfold ScX.v
      go_enter Try.func45, Try.ntmps45
      go_wp2_with fail
      refine (refVariable_no X X.a2 X.n2 X.c2 S.vars n _ HS.out.l2 (HS.out.r2.below (belowN2 _ _ _)) HV.out).mono ?_
      rintro e w1 ⟨rfl, hb1⟩
      have HB1 : Hid (Below w.heap.size w w1) := Lib.hid (bthen (belowN2 _ _ _) hb1)
      clear hb1
      go_wp2
      go_ret2
      exact ⟨rfl, bthen HB1.out (below_alloc1 _ _)⟩
    | some xy =>
      obtain ⟨x, y⟩ := xy
      obtain ⟨k0, e1, e2, e3, x1, x2, y1, y2⟩ := varK_some hv
      clear e1 e2 e3
      have HIK : Hid (itemK X.n1 S.vars n k = hadF (kindOf x) (kindOf y != 0 && kindOf y == k) 9) := Lib.hid (by unfold itemK; rw [hv])
      rw [HIK.out]
      have HV := Lib.hid hv
      clear hv
      by_cases hy : y = 0
      · subst hy
        have HE : Hid (hadF (kindOf x) (kindOf 0 != 0 && kindOf 0 == k) 9 = (0, 9)) := Lib.hid (by simp [kindOf, hadF])
        rw [HE.out]
        unfold ScX.v
        go_enter Try.func45, Try.ntmps45
        go_wp2_with fail
        refine (refVariable_some X X.a2 X.n2 X.c2 S.vars n x 0 _ HS.out.l2 (HS.out.r2.below (belowN2 _ _ _)) HV.out).mono ?_
        rintro e w1 ⟨⟨s0, p, q, r, rfl⟩, hb1⟩
        have HB1 : Hid (Below w.heap.size w w1) := Lib.hid (bthen (belowN2 _ _ _) hb1)
        clear hb1
        go_wp2
        go_ret2
        exact ⟨rfl, bthen HB1.out (below_alloc1 _ _)⟩
      · have hy0 : (y == 0) = false := by simpa using hy
        have q1 : IntKind.i64.wrap (1 + y) = 1 + y := IntWalk.i64_in _ (by omega)
        have HKY : Hid (kindOf y = 1 + y) := Lib.hid (if_neg hy)
        by_cases hk : k = 1 + y
        · subst hk
          have HE : Hid (hadF (kindOf x) (kindOf y != 0 && kindOf y == 1 + y) 9 = (kindOf x, 0)) := Lib.hid (by
            rw [HKY.out]
            have h1 : (1 + y != 0) = true := by simp; omega
            rw [h1]
            simp [hadF])
          rw [HE.out]
          unfold ScX.v
          go_enter Try.func45, Try.ntmps45
          go_wp2_with fail
          refine (refVariable_some X X.a2 X.n2 X.c2 S.vars n x y _ HS.out.l2 (HS.out.r2.below (belowN2 _ _ _)) HV.out).mono ?_
          rintro e w1 ⟨⟨s0, p, q, r, rfl⟩, hb1⟩
          have HB1 : Hid (Below w.heap.size w w1) := Lib.hid (bthen (belowN2 _ _ _) hb1)
          clear hb1
          go_wp2_with fail
          refine (refKindOf_any x _ x1 (by omega)).mono ?_
          rintro e w' ⟨rfl, rfl⟩
          go_wp2
          go_ret2
          exact ⟨rfl, bthen HB1.out (below_alloc1 _ _)⟩
        · have hk0 : (k != 1 + y) = true := by simpa using hk
          have HE : Hid (hadF (kindOf x) (kindOf y != 0 && kindOf y == k) 9 = (0, 9)) := Lib.hid (by
            rw [HKY.out]
            have h1 : (1 + y == k) = false := by simp; omega
            rw [h1, Bool.and_false]
            rfl)
          rw [HE.out]
          unfold ScX.v
          go_enter Try.func45, Try.ntmps45
          go_wp2_with fail
          refine (refVariable_some X X.a2 X.n2 X.c2 S.vars n x y _ HS.out.l2 (HS.out.r2.below (belowN2 _ _ _)) HV.out).mono ?_
          rintro e w1 ⟨⟨s0, p, q, r, rfl⟩, hb1⟩
          have HB1 : Hid (Below w.heap.size w w1) := Lib.hid (bthen (belowN2 _ _ _) hb1)
          clear hb1
          go_wp2
          go_ret2
          exact ⟨rfl, bthen HB1.out (below_alloc1 _ _)⟩
  · have HP : Hid (nodeK S (9, n) [k] = if k = 1 then (1, 0) else (0, 9)) := Lib.hid (by show opK 9 [k] = _; rw [opK_one]; simp [opOf, opTo])
    rw [HP.out]
    clear h
    by_cases hk : k = 1
    · subst hk
      unfold ScX.v
      go_enter Try.func45, Try.ntmps45
      go_wp2
      go_ret2
      exact ⟨rfl, belowN2 _ _ _⟩
    · have hk0 : (k == 1) = false := by simpa using hk
      rw [if_neg hk]
      unfold ScX.v
      go_enter Try.func45, Try.ntmps45
      go_wp2
      go_ret2
      exact ⟨rfl, belowN2 _ _ _⟩
  · have HP : Hid (nodeK S (10, n) [k] = if k = 0 then (0, 0) else (0, 9)) := Lib.hid (by show opK 10 [k] = _; rw [opK_one]; simp [opOf, opTo])
    rw [HP.out]
    clear h
    by_cases hk : k = 0
    · subst hk
      unfold ScX.v
      go_enter Try.func45, Try.ntmps45
      go_wp2
      go_ret2
      exact ⟨rfl, belowN2 _ _ _⟩
    · have hk0 : (k == 0) = false := by simpa using hk
      rw [if_neg hk]
      unfold ScX.v
      go_enter Try.func45, Try.ntmps45
      go_wp2
      go_ret2
      exact ⟨rfl, belowN2 _ _ _⟩
end Go.Proofs.Ytjciamefkacchaa
