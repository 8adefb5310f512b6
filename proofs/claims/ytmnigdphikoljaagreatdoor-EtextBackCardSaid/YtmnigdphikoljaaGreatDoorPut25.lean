/- Contracts that the claim stands on, several texts in one: ExprRefOne, ExprRefChan. -/
import Derived.Test.YtmnigdphikoljaaGreatDoorPut1
import Derived.Test.YtmnigdphikoljaaGreatDoorPut2
import Derived.Test.YtmnigdphikoljaaGreatDoorPut3
import Derived.Test.YtmnigdphikoljaaGreatDoorPut4
import Derived.Test.YtmnigdphikoljaaGreatDoorPut5
import Derived.Test.YtmnigdphikoljaaGreatDoorPut6
import Derived.Test.YtmnigdphikoljaaGreatDoorPut7
import Derived.Test.YtmnigdphikoljaaGreatDoorPut8
import Derived.Test.YtmnigdphikoljaaGreatDoorPut9
import Derived.Test.YtmnigdphikoljaaGreatDoorPut10
import Derived.Test.YtmnigdphikoljaaGreatDoorPut11
import Derived.Test.YtmnigdphikoljaaGreatDoorPut12
import Derived.Test.YtmnigdphikoljaaGreatDoorPut13
import Derived.Test.YtmnigdphikoljaaGreatDoorPut14
import Derived.Test.YtmnigdphikoljaaGreatDoorPut15
import Derived.Test.YtmnigdphikoljaaGreatDoorPut16
import Derived.Test.YtmnigdphikoljaaGreatDoorPut17
import Derived.Test.YtmnigdphikoljaaGreatDoorPut18
import Derived.Test.YtmnigdphikoljaaGreatDoorPut19
import Derived.Test.YtmnigdphikoljaaGreatDoorPut20
import Derived.Test.YtmnigdphikoljaaGreatDoorPut21
import Derived.Test.YtmnigdphikoljaaGreatDoorPut22
import Derived.Test.YtmnigdphikoljaaGreatDoorPut23
import Derived.Test.YtmnigdphikoljaaGreatDoorPut24
namespace Go.Proofs.YtmnigdphikoljaaGreatDoor
open Go.ChangeShapes Go.WideShapes Go.ChangeAt Go.RowKit

theorem opK_one (op k : Int) : opK op [k] = if k == (if opOf op = -1 then k else opOf op) then (opTo op, 0) else (0, 9) := by
  unfold opK
  simp
set_option maxRecDepth 20000 in
set_option maxHeartbeats 4000000 in
theorem refTwo_any (op a b : Int) (w : World) (h : 11 ≤ op ∧ op ≤ 19) : Calls Tryz.prog 36 #[.int .i64 op, .int .i64 a, .int .i64 b] w (PairP w (opK op [a, b])) := by
  have hc : op = 11 ∨ op = 12 ∨ op = 13 ∨ op = 14 ∨ op = 15 ∨ op = 16 ∨ op = 17 ∨ op = 18 ∨ op = 19 := by omega
  clear h
  by_cases hab : a = b
  · subst hab
    rcases hc with rfl | rfl | rfl | rfl | rfl | rfl | rfl | rfl | rfl
    case inr.inr.inr.inl | inr.inr.inr.inr.inl =>
      generalize hz : opK _ [a, a] = z
      obtain rfl : z = (1, 0) := by rw [← hz]; unfold opK opOf opTo; simp
      clear hz
      go_enter Tryz.func36, Tryz.ntmps36
      go_wp2
      go_ret2
      exact ⟨rfl, Below.refl _ _⟩
    case inl | inr.inl | inr.inr.inl =>
      by_cases h0 : a = 0
      · subst h0
        generalize hz : opK _ [0, 0] = z
        obtain rfl : z = (0, 0) := by rw [← hz]; unfold opK opOf opTo; simp
        clear hz
        go_enter Tryz.func36, Tryz.ntmps36
        go_wp2
        go_ret2
        exact ⟨rfl, Below.refl _ _⟩
      · have h00 : (a == 0) = false := by simpa using h0
        generalize hz : opK _ [a, a] = z
        obtain rfl : z = (0, 9) := by rw [← hz]; unfold opK opOf opTo; simp [h0]
        clear hz
        go_enter Tryz.func36, Tryz.ntmps36
        go_wp2
        go_ret2
        exact ⟨rfl, Below.refl _ _⟩
    case inr.inr.inr.inr.inr.inl | inr.inr.inr.inr.inr.inr.inl =>
      by_cases h0 : a = 0
      · subst h0
        generalize hz : opK _ [0, 0] = z
        obtain rfl : z = (1, 0) := by rw [← hz]; unfold opK opOf opTo; simp
        clear hz
        go_enter Tryz.func36, Tryz.ntmps36
        go_wp2
        go_ret2
        exact ⟨rfl, Below.refl _ _⟩
      · have h00 : (a == 0) = false := by simpa using h0
        generalize hz : opK _ [a, a] = z
        obtain rfl : z = (0, 9) := by rw [← hz]; unfold opK opOf opTo; simp [h0]
        clear hz
        go_enter Tryz.func36, Tryz.ntmps36
        go_wp2
        go_ret2
        exact ⟨rfl, Below.refl _ _⟩
    all_goals
      by_cases h0 : a = 1
      · subst h0
        generalize hz : opK _ [1, 1] = z
        obtain rfl : z = (1, 0) := by rw [← hz]; unfold opK opOf opTo; simp
        clear hz
        go_enter Tryz.func36, Tryz.ntmps36
        go_wp2
        go_ret2
        exact ⟨rfl, Below.refl _ _⟩
      · have h00 : (a == 1) = false := by simpa using h0
        generalize hz : opK _ [a, a] = z
        obtain rfl : z = (0, 9) := by rw [← hz]; unfold opK opOf opTo; simp [h0]
        clear hz
        go_enter Tryz.func36, Tryz.ntmps36
        go_wp2
        go_ret2
        exact ⟨rfl, Below.refl _ _⟩
  · have h00 : (a != b) = true := by simpa using hab
    have hba : ¬ b = a := fun e => hab e.symm
    have HE : Hid (opK op [a, b] = (0, 9)) := Lib.hid (by
      unfold opK
      rw [if_neg]
      intro hall
      simp only [List.all_cons, List.all_nil, Bool.and_true, Bool.and_eq_true, beq_iff_eq] at hall
      obtain ⟨h1, h2⟩ := hall
      exact hab (h1.trans h2.symm))
    rw [HE.out]
    clear hc
    go_enter Tryz.func36, Tryz.ntmps36
    go_wp2
    go_ret2
    exact ⟨rfl, Below.refl _ _⟩

theorem belowN2 (w : World) (a b : Obj) : Below w.heap.size w ((w.alloc a).alloc b) := bthen (below_alloc1 _ _) (below_alloc1 _ _)
set_option maxRecDepth 20000 in
set_option maxHeartbeats 4000000 in
theorem refOne_any (X : ScX) (S : Sc) (op n k : Int) (w : World) (h : SR w X S) (hop : op = 3 ∨ op = 9 ∨ op = 10) :
    Calls Tryz.prog 35 #[.agg #[.int .i64 op, .int .i64 n], .int .i64 k, X.v] w (PairP w (nodeK S (op, n) [k])) := by
  have HS := Lib.hid h
  have hn1 := h.small
  rcases hop with rfl | rfl | rfl
  · have HP : Hid (nodeK S (3, n) [k] = itemK X.n1 S.vars n k) := Lib.hid (by rw [HS.out.l1]; rfl)
    rw [HP.out]
    clear h
    cases hv : varK X.n1 S.vars n with
    | none =>
      have HE : Hid (itemK X.n1 S.vars n k = (0, 8)) := Lib.hid (by unfold itemK; rw [hv])
      rw [HE.out]
      have HV := Lib.hid hv
      clear hv
      unfold ScX.v
      go_enter Tryz.func35, Tryz.ntmps35
      go_wp2_with fail
      refine (refVariable_no X X.a2 X.n2 X.c2 S.vars n _ HS.out.l2 (HS.out.r2.below (belowN2 _ _ _)) HV.out).mono ?_
      rintro e w1 ⟨rfl, hb1⟩
      have HB1 : Hid (Below w.heap.size w w1) := Lib.hid (bthen (belowN2 _ _ _) hb1)
      clear hb1
      go_wp2
      go_ret2
      exact ⟨rfl, bthen HB1.out (below_alloc1 _ _)⟩
    | some xy =>
      obtain ⟨x, y⟩ := xy
      obtain ⟨k0, e1, e2, e3, x1, x2, y1, y2⟩ := varK_some hv
      clear e1 e2 e3
      have HIK : Hid (itemK X.n1 S.vars n k = hadF (kindOf x) (kindOf y != 0 && kindOf y == k) 9) := Lib.hid (by unfold itemK; rw [hv])
      rw [HIK.out]
      have HV := Lib.hid hv
      clear hv
      by_cases hy : y = 0
      · subst hy
        have HE : Hid (hadF (kindOf x) (kindOf 0 != 0 && kindOf 0 == k) 9 = (0, 9)) := Lib.hid (by simp [kindOf, hadF])
        rw [HE.out]
        unfold ScX.v
        go_enter Tryz.func35, Tryz.ntmps35
        go_wp2_with fail
        refine (refVariable_some X X.a2 X.n2 X.c2 S.vars n x 0 _ HS.out.l2 (HS.out.r2.below (belowN2 _ _ _)) HV.out).mono ?_
        rintro e w1 ⟨⟨s0, p, q, r, rfl⟩, hb1⟩
        have HB1 : Hid (Below w.heap.size w w1) := Lib.hid (bthen (belowN2 _ _ _) hb1)
        clear hb1
        go_wp2
        go_ret2
        exact ⟨rfl, bthen HB1.out (below_alloc1 _ _)⟩
      · have hy0 : (y == 0) = false := by simpa using hy
        have q1 : IntKind.i64.wrap (1 + y) = 1 + y := IntWalk.i64_in _ (by omega)
        have HKY : Hid (kindOf y = 1 + y) := Lib.hid (if_neg hy)
        by_cases hk : k = 1 + y
        · subst hk
          have HE : Hid (hadF (kindOf x) (kindOf y != 0 && kindOf y == 1 + y) 9 = (kindOf x, 0)) := Lib.hid (by
            rw [HKY.out]
            have h1 : (1 + y != 0) = true := by simp; omega
            rw [h1]
            simp [hadF])
          rw [HE.out]
          unfold ScX.v
          go_enter Tryz.func35, Tryz.ntmps35
          go_wp2_with fail
          refine (refVariable_some X X.a2 X.n2 X.c2 S.vars n x y _ HS.out.l2 (HS.out.r2.below (belowN2 _ _ _)) HV.out).mono ?_
          rintro e w1 ⟨⟨s0, p, q, r, rfl⟩, hb1⟩
          have HB1 : Hid (Below w.heap.size w w1) := Lib.hid (bthen (belowN2 _ _ _) hb1)
          clear hb1
          go_wp2_with fail
          refine (refKindOf_any x _ x1 (by omega)).mono ?_
          rintro e w' ⟨rfl, rfl⟩
          go_wp2
          go_ret2
          exact ⟨rfl, bthen HB1.out (below_alloc1 _ _)⟩
        · have hk0 : (k != 1 + y) = true := by simpa using hk
          have HE : Hid (hadF (kindOf x) (kindOf y != 0 && kindOf y == k) 9 = (0, 9)) := Lib.hid (by
            rw [HKY.out]
            have h1 : (1 + y == k) = false := by simp; omega
            rw [h1, Bool.and_false]
            rfl)
          rw [HE.out]
          unfold ScX.v
          go_enter Tryz.func35, Tryz.ntmps35
          go_wp2_with fail
          refine (refVariable_some X X.a2 X.n2 X.c2 S.vars n x y _ HS.out.l2 (HS.out.r2.below (belowN2 _ _ _)) HV.out).mono ?_
          rintro e w1 ⟨⟨s0, p, q, r, rfl⟩, hb1⟩
          have HB1 : Hid (Below w.heap.size w w1) := Lib.hid (bthen (belowN2 _ _ _) hb1)
          clear hb1
          go_wp2
          go_ret2
          exact ⟨rfl, bthen HB1.out (below_alloc1 _ _)⟩
  · have HP : Hid (nodeK S (9, n) [k] = if k = 1 then (1, 0) else (0, 9)) := Lib.hid (by show opK 9 [k] = _; rw [opK_one]; simp [opOf, opTo])
    rw [HP.out]
    clear h
    by_cases hk : k = 1
    · subst hk
      unfold ScX.v
      go_enter Tryz.func35, Tryz.ntmps35
      go_wp2
      go_ret2
      exact ⟨rfl, belowN2 _ _ _⟩
    · have hk0 : (k == 1) = false := by simpa using hk
      rw [if_neg hk]
      unfold ScX.v
      go_enter Tryz.func35, Tryz.ntmps35
      go_wp2
      go_ret2
      exact ⟨rfl, belowN2 _ _ _⟩
  · have HP : Hid (nodeK S (10, n) [k] = if k = 0 then (0, 0) else (0, 9)) := Lib.hid (by show opK 10 [k] = _; rw [opK_one]; simp [opOf, opTo])
    rw [HP.out]
    clear h
    by_cases hk : k = 0
    · subst hk
      unfold ScX.v
      go_enter Tryz.func35, Tryz.ntmps35
      go_wp2
      go_ret2
      exact ⟨rfl, belowN2 _ _ _⟩
    · have hk0 : (k == 0) = false := by simpa using hk
      rw [if_neg hk]
      unfold ScX.v
      go_enter Tryz.func35, Tryz.ntmps35
      go_wp2
      go_ret2
      exact ⟨rfl, belowN2 _ _ _⟩
end Go.Proofs.YtmnigdphikoljaaGreatDoor
namespace Go.Proofs.YtmnigdphikoljaaGreatDoor
open Go.ChangeShapes Go.WideShapes Go.ChangeAt Go.RowKit

/-- What Channel leaves. -/
def ChanP (w : World) (is : Bool) (e : Ending) (w' : World) : Prop := (∃ (s : ByteArray) (p q r u : Int) (t : Bool), e = .returned (.tuple #[.agg #[.string s, .int .i64 p, .int .i64 q, .int .i64 r, .int .i64 u, .bool t], .bool is])) ∧ Below w.heap.size w w'
/-- The result's cells. -/
def RZC (W : World) (z : Nat) : Prop := (W.cell? ⟨z, 0, none⟩ = some (.string ⟨#[]⟩) ∧ W.cell? ⟨z, 1, none⟩ = some (.int .i64 0) ∧ W.cell? ⟨z, 2, none⟩ = some (.int .i64 0) ∧ W.cell? ⟨z, 3, none⟩ = some (.int .i64 0) ∧ W.cell? ⟨z, 4, none⟩ = some (.int .i64 0) ∧ W.cell? ⟨z, 5, none⟩ = some (.bool false)) ∧ z < W.heap.size ∧ ∀ i, W.frozen? ⟨z, i, none⟩ = false
theorem RZC.below {w w' : World} {b : Nat} (h : RZC w b) (k : Below w.heap.size w w') : RZC w' b := by
  obtain ⟨⟨c0, c1, c2, c3, c4, c5⟩, hb, hf⟩ := h
  exact ⟨⟨(k.cell (p := ⟨b, 0, none⟩) hb).trans c0, (k.cell (p := ⟨b, 1, none⟩) hb).trans c1, (k.cell (p := ⟨b, 2, none⟩) hb).trans c2, (k.cell (p := ⟨b, 3, none⟩) hb).trans c3, (k.cell (p := ⟨b, 4, none⟩) hb).trans c4, (k.cell (p := ⟨b, 5, none⟩) hb).trans c5⟩, Nat.lt_of_lt_of_le hb k.size, fun i => (k.frozen (p := ⟨b, i, none⟩) hb).trans (hf i)⟩

set_option maxRecDepth 20000 in
set_option maxHeartbeats 4000000 in
theorem refChannel_out (X : ScX) (n : Int) (w : World) (hc : n < 0 ∨ (X.n3 : Int) ≤ n) : Calls Tryz.prog 73 #[.int .i64 n, X.v] w (ChanP w false) := by
  by_cases hn : n < 0
  · have hd : decide (n < 0) = true := decide_eq_true hn
    clear hc
    unfold ScX.v
    go_enter Tryz.func73, Tryz.ntmps73
    go_upto_region 1 with (fail)
    go_quiet (fail)
    go_wp2
    (try simp only [Exit.inBlock, Exit.then])
    refine bodyPost_ret (v := .tuple #[.agg #[.string ⟨#[]⟩, .int .i64 0, .int .i64 0, .int .i64 0, .int .i64 0, .bool false], .bool false]) ?_ rfl ⟨⟨⟨#[]⟩, 0, 0, 0, 0, false, rfl⟩, ?_⟩
    · rw [results_cell_tmp rfl]; go_simp
    · exact below6 (below_drewN (bthen (below_alloc1 _ _) (below_alloc1 _ _)) _) (w.heap.size + 1) (Nat.le_succ _) _ _ _ _ _ _
  · have hd : decide (n < 0) = false := decide_eq_false hn
    have hd2 : decide ((X.n3 : Int) ≤ n) = true := decide_eq_true (by omega)
    clear hc
    unfold ScX.v
    go_enter Tryz.func73, Tryz.ntmps73
    go_upto_region 1 with (fail)
    go_quiet (fail)
    go_wp2
    (try simp only [Exit.inBlock, Exit.then])
    refine bodyPost_ret (v := .tuple #[.agg #[.string ⟨#[]⟩, .int .i64 0, .int .i64 0, .int .i64 0, .int .i64 0, .bool false], .bool false]) ?_ rfl ⟨⟨⟨#[]⟩, 0, 0, 0, 0, false, rfl⟩, ?_⟩
    · rw [results_cell_tmp rfl]; go_simp
    · exact below6 (below_drewN (bthen (below_alloc1 _ _) (below_alloc1 _ _)) _) (w.heap.size + 1) (Nat.le_succ _) _ _ _ _ _ _

set_option maxRecDepth 20000 in
set_option maxHeartbeats 4000000 in
theorem refChannel_bad (X : ScX) (k : Nat) (l : List Int) (x : Int) (w : World) (hm : X.n3 = l.length) (hA : CA w X.a3 l) (hk : k < l.length) (HL : Hid (l.getD k 0 = x)) (HSX : Hid (scB X.n1 x = false)) :
    Calls Tryz.prog 73 #[.int .i64 k, X.v] w (ChanP w false) := by
    have HA := Lib.hid hA
    have hkm : k < X.n3 := by omega
    have HNK := Lib.hid hk
    clear hm hk hA
    have hd : decide ((k : Int) < 0) = false := decide_eq_false (by omega)
    have hd2 : decide (X.n3 ≤ k) = false := decide_eq_false (by omega)
    obtain ⟨b, o, ha, hb, hcl⟩ := HA.out (by have := HNK.out; omega)
    obtain ⟨s0, p, q, r, t0, h0, h1, h2, h3, h4, h5⟩ := hcl k HNK.out
    rw [HL.out] at h1
    have HE3 := Lib.hid ha
    clear ha HA
    have HV6 : Hid (∀ W, Below w.heap.size w W → W.cell? ⟨b, o + k * 6, none⟩ = some (.string s0) ∧ W.cell? ⟨b, o + k * 6 + 1, none⟩ = some (.int .i64 x) ∧ W.cell? ⟨b, o + k * 6 + 2, none⟩ = some (.int .i64 p) ∧ W.cell? ⟨b, o + k * 6 + 3, none⟩ = some (.int .i64 q) ∧ W.cell? ⟨b, o + k * 6 + 4, none⟩ = some (.int .i64 r) ∧ W.cell? ⟨b, o + k * 6 + 5, none⟩ = some (.bool t0)) := Lib.hid (fun W hW =>
      ⟨(hW.cell (p := ⟨b, o + k * 6, none⟩) hb).trans h0, (hW.cell (p := ⟨b, o + k * 6 + 1, none⟩) hb).trans h1, (hW.cell (p := ⟨b, o + k * 6 + 2, none⟩) hb).trans h2, (hW.cell (p := ⟨b, o + k * 6 + 3, none⟩) hb).trans h3, (hW.cell (p := ⟨b, o + k * 6 + 4, none⟩) hb).trans h4, (hW.cell (p := ⟨b, o + k * 6 + 5, none⟩) hb).trans h5⟩)
    clear hcl
    unfold ScX.v
    go_enter Tryz.func73, Tryz.ntmps73
    go_upto_region 1 with (fail)
    obtain ⟨w2, HW2⟩ : ∃ w2, w2 = (w.alloc (.cells #[.slice X.a1 X.n1 X.c1, .slice X.a2 X.n2 X.c2, .slice X.a3 X.n3 X.c3, .slice X.a4 X.n4 X.c4, .slice X.a5 X.n5 X.c5, .int .i64 X.self] 28)).alloc (.cells #[.string ⟨#[]⟩, .int .i64 0, .int .i64 0, .int .i64 0, .int .i64 0, .bool false] 96) := ⟨_, rfl⟩
    have HB2 : Hid (Below w.heap.size w w2) := Lib.hid (by rw [HW2]; exact bthen (below_alloc1 _ _) (below_alloc1 _ _))
    have HBX : Hid (Bx w2 w.heap.size X) := Lib.hid (by rw [HW2]; exact (Bx.new w X 28).below (below_alloc1 _ _))
    have HV7 : Hid (∀ W, Below w2.heap.size w2 W → W.cell? ⟨w.heap.size, 0, none⟩ = some (.slice X.a1 X.n1 X.c1) ∧ W.cell? ⟨w.heap.size, 1, none⟩ = some (.slice X.a2 X.n2 X.c2) ∧ W.cell? ⟨w.heap.size, 2, none⟩ = some (.slice X.a3 X.n3 X.c3) ∧ W.cell? ⟨w.heap.size, 3, none⟩ = some (.slice X.a4 X.n4 X.c4) ∧ W.cell? ⟨w.heap.size, 4, none⟩ = some (.slice X.a5 X.n5 X.c5) ∧ W.cell? ⟨w.heap.size, 5, none⟩ = some (.int .i64 X.self) ∧ W.cell? ⟨b, o + k * 6 + 1, none⟩ = some (.int .i64 x)) := Lib.hid (fun W hW => by
      obtain ⟨⟨g0, g1, g2, g3, g4, g5⟩, _⟩ := HBX.out.below hW
      exact ⟨g0, g1, g2, g3, g4, g5, (HV6.out W (bthen HB2.out hW)).2.1⟩)
    have HRZ : Hid (RZC w2 (w.heap.size + 1)) := Lib.hid (by rw [HW2]; exact ⟨⟨World.cell?_alloc_at _ _ _ _ (by simp), World.cell?_alloc_at _ _ _ _ (by simp), World.cell?_alloc_at _ _ _ _ (by simp), World.cell?_alloc_at _ _ _ _ (by simp), World.cell?_alloc_at _ _ _ _ (by simp), World.cell?_alloc_at _ _ _ _ (by simp)⟩, by simp, fun i => World.frozen?_alloc_at _ _ _ _ (by simp)⟩)
    rw [← HW2]
    have HKEEP : Hid (Below w2.heap.size w2 w2) := Lib.hid (Below.refl _ _)
    clear HW2 h0 h1 h2 h3 h4 h5
    have HCS : Hid (∀ W, Calls Tryz.prog 110 #[.int .i64 x, .agg #[.slice X.a1 X.n1 X.c1, .slice X.a2 X.n2 X.c2, .slice X.a3 X.n3 X.c3, .slice X.a4 X.n4 X.c4, .slice X.a5 X.n5 X.c5, .int .i64 X.self]] W fun e w' => e = .returned (.bool (scB X.n1 x)) ∧ Below W.heap.size W w') := Lib.hid (fun W => refScalar_any X x W)
    rw [HE3.out] at *
    refine wp_region_held_drew (S := (fun w' => w'.cell? ⟨w.heap.size, 0, none⟩ = some (.slice X.a1 X.n1 X.c1) ∧ w'.cell? ⟨w.heap.size, 1, none⟩ = some (.slice X.a2 X.n2 X.c2) ∧ w'.cell? ⟨w.heap.size, 2, none⟩ = some (.slice (some ⟨b, o, none⟩) X.n3 X.c3) ∧ w'.cell? ⟨w.heap.size, 3, none⟩ = some (.slice X.a4 X.n4 X.c4) ∧ w'.cell? ⟨w.heap.size, 4, none⟩ = some (.slice X.a5 X.n5 X.c5) ∧ w'.cell? ⟨w.heap.size, 5, none⟩ = some (.int .i64 X.self) ∧ w'.cell? ⟨b, o + k * 6 + 1, none⟩ = some (.int .i64 x))) (by kernel_rfl) (HV7.out _ (Below.refl _ w2).drew) (fun hS0 => ?_)
    have HS0 := Lib.hid hS0
    clear hS0
    simp only [Array.replicate, List.replicate]
    refine wpAnyH_take (i := 0) (oi := ⟨some 6, _, _, _, _, _⟩) (v := .int .i64 (k : Int)) rfl (by kernel_rfl) (by kernel_rfl) (by kernel_rfl) (fun _ _ _ h => h) (Or.inl ⟨by kernel_rfl, fun w9 hS => ?_⟩) HS0.out ?_
    · clear hS
      go_simp
    try simp only [Act.put, List.setIfInBounds_toArray, List.set_cons_zero, List.set_cons_succ]
    refine wpAnyH_take (i := 1) (oi := ⟨some 7, _, _, _, _, _⟩) (v := .bool false) rfl (by kernel_rfl) (by kernel_rfl) (by kernel_rfl) (fun _ _ _ h => h) (Or.inl ⟨by kernel_rfl, fun w9 hS => ?_⟩) HS0.out ?_
    · clear hS
      go_simp
    try simp only [Act.put, List.setIfInBounds_toArray, List.set_cons_zero, List.set_cons_succ]
    refine wpAnyH_take (i := 2) (oi := ⟨some 8, _, _, _, _, _⟩) (v := .bool false) rfl (by kernel_rfl) (by kernel_rfl) (by kernel_rfl) (fun _ _ _ h => h) (Or.inl ⟨by kernel_rfl, fun w9 hS => ?_⟩) HS0.out ?_
    · clear hS
      go_simp
    try simp only [Act.put, List.setIfInBounds_toArray, List.set_cons_zero, List.set_cons_succ]
    refine wpAnyH_take (i := 3) (oi := ⟨some 9, _, _, _, _, _⟩) (v := .int .i64 (k : Int)) rfl (by kernel_rfl) (by kernel_rfl) (by kernel_rfl) (fun _ _ _ h => h) (Or.inl ⟨by kernel_rfl, fun w9 hS => ?_⟩) HS0.out ?_
    · clear hS
      go_simp
    try simp only [Act.put, List.setIfInBounds_toArray, List.set_cons_zero, List.set_cons_succ]
    refine wpAnyH_take (i := 4) (oi := ⟨some 10, _, _, _, _, _⟩) (v := .pointer (some ⟨w.heap.size, 2, none⟩)) rfl (by kernel_rfl) (by kernel_rfl) (by kernel_rfl) (fun _ _ _ h => h) (Or.inl ⟨by kernel_rfl, fun w9 hS => ?_⟩) HS0.out ?_
    · clear hS
      go_simp
    try simp only [Act.put, List.setIfInBounds_toArray, List.set_cons_zero, List.set_cons_succ]
    refine wpAnyH_take (i := 5) (oi := ⟨some 11, _, _, _, _, _⟩) (v := .slice (some ⟨b, o, none⟩) X.n3 X.c3) rfl (by kernel_rfl) (by kernel_rfl) (by kernel_rfl) (fun _ _ _ h => h) (Or.inl ⟨by kernel_rfl, fun w9 hS => ?_⟩) HS0.out ?_
    · obtain ⟨s0, s1, s2, s3, s4, s5, s6⟩ := hS
      go_simp
    try simp only [Act.put, List.setIfInBounds_toArray, List.set_cons_zero, List.set_cons_succ]
    refine wpAnyH_take (i := 6) (oi := ⟨some 12, _, _, _, _, _⟩) (v := .int .i64 (X.n3 : Int)) rfl (by kernel_rfl) (by kernel_rfl) (by kernel_rfl) (fun _ _ _ h => h) (Or.inl ⟨by kernel_rfl, fun w9 hS => ?_⟩) HS0.out ?_
    · clear hS
      go_simp
    try simp only [Act.put, List.setIfInBounds_toArray, List.set_cons_zero, List.set_cons_succ]
    refine wpAnyH_take (i := 7) (oi := ⟨some 13, _, _, _, _, _⟩) (v := .bool false) rfl (by kernel_rfl) (by kernel_rfl) (by kernel_rfl) (fun _ _ _ h => h) (Or.inl ⟨by kernel_rfl, fun w9 hS => ?_⟩) HS0.out ?_
    · clear hS
      go_simp
    try simp only [Act.put, List.setIfInBounds_toArray, List.set_cons_zero, List.set_cons_succ]
    refine wpAnyH_take (i := 8) (oi := ⟨some 14, _, _, _, _, _⟩) (v := .bool false) rfl (by kernel_rfl) (by kernel_rfl) (by kernel_rfl) (fun _ _ _ h => h) (Or.inl ⟨by kernel_rfl, fun w9 hS => ?_⟩) HS0.out ?_
    · clear hS
      go_simp
    try simp only [Act.put, List.setIfInBounds_toArray, List.set_cons_zero, List.set_cons_succ]
    refine wpAnyH_take (i := 9) (oi := ⟨some 15, _, _, _, _, _⟩) (v := .bool false) rfl (by kernel_rfl) (by kernel_rfl) (by kernel_rfl) (fun _ _ _ h => h) (Or.inl ⟨by kernel_rfl, fun w9 hS => ?_⟩) HS0.out ?_
    · clear hS
      go_simp
    try simp only [Act.put, List.setIfInBounds_toArray, List.set_cons_zero, List.set_cons_succ]
    refine wpAnyH_take (i := 10) (oi := ⟨some 16, _, _, _, _, _⟩) (v := .pointer (some ⟨w.heap.size, 2, none⟩)) rfl (by kernel_rfl) (by kernel_rfl) (by kernel_rfl) (fun _ _ _ h => h) (Or.inl ⟨by kernel_rfl, fun w9 hS => ?_⟩) HS0.out ?_
    · clear hS
      go_simp
    try simp only [Act.put, List.setIfInBounds_toArray, List.set_cons_zero, List.set_cons_succ]
    refine wpAnyH_take (i := 11) (oi := ⟨some 17, _, _, _, _, _⟩) (v := .slice (some ⟨b, o, none⟩) X.n3 X.c3) rfl (by kernel_rfl) (by kernel_rfl) (by kernel_rfl) (fun _ _ _ h => h) (Or.inl ⟨by kernel_rfl, fun w9 hS => ?_⟩) HS0.out ?_
    · obtain ⟨s0, s1, s2, s3, s4, s5, s6⟩ := hS
      go_simp
    try simp only [Act.put, List.setIfInBounds_toArray, List.set_cons_zero, List.set_cons_succ]
    refine wpAnyH_take (i := 12) (oi := ⟨some 18, _, _, _, _, _⟩) (v := .int .i64 (k : Int)) rfl (by kernel_rfl) (by kernel_rfl) (by kernel_rfl) (fun _ _ _ h => h) (Or.inl ⟨by kernel_rfl, fun w9 hS => ?_⟩) HS0.out ?_
    · clear hS
      go_simp
    try simp only [Act.put, List.setIfInBounds_toArray, List.set_cons_zero, List.set_cons_succ]
    refine wpAnyH_take (i := 13) (oi := ⟨some 19, _, _, _, _, _⟩) (v := .pointer (some ⟨b, o + k * 6, none⟩)) rfl (by kernel_rfl) (by kernel_rfl) (by kernel_rfl) (fun _ _ _ h => h) (Or.inl ⟨by kernel_rfl, fun w9 hS => ?_⟩) HS0.out ?_
    · clear hS
      go_simp
    try simp only [Act.put, List.setIfInBounds_toArray, List.set_cons_zero, List.set_cons_succ]
    refine wpAnyH_take (i := 14) (oi := ⟨some 20, _, _, _, _, _⟩) (v := .pointer (some ⟨b, o + k * 6 + 1, none⟩)) rfl (by kernel_rfl) (by kernel_rfl) (by kernel_rfl) (fun _ _ _ h => h) (Or.inl ⟨by kernel_rfl, fun w9 hS => ?_⟩) HS0.out ?_
    · clear hS
      go_simp
    try simp only [Act.put, List.setIfInBounds_toArray, List.set_cons_zero, List.set_cons_succ]
    refine wpAnyH_take (i := 15) (oi := ⟨some 21, _, _, _, _, _⟩) (v := .int .i64 x) rfl (by kernel_rfl) (by kernel_rfl) (by kernel_rfl) (fun _ _ _ h => h) (Or.inl ⟨by kernel_rfl, fun w9 hS => ?_⟩) HS0.out ?_
    · obtain ⟨s0, s1, s2, s3, s4, s5, s6⟩ := hS
      go_simp
    try simp only [Act.put, List.setIfInBounds_toArray, List.set_cons_zero, List.set_cons_succ]
    refine wpAnyH_take (i := 16) (oi := ⟨some 22, _, _, _, _, _⟩) (v := .agg #[.slice X.a1 X.n1 X.c1, .slice X.a2 X.n2 X.c2, .slice (some ⟨b, o, none⟩) X.n3 X.c3, .slice X.a4 X.n4 X.c4, .slice X.a5 X.n5 X.c5, .int .i64 X.self]) rfl (by kernel_rfl) (by kernel_rfl) (by kernel_rfl) (fun _ _ _ h => h) (Or.inl ⟨by kernel_rfl, fun w9 hS => ?_⟩) HS0.out ?_
    · obtain ⟨s0, s1, s2, s3, s4, s5, s6⟩ := hS
      go_simp
    try simp only [Act.put, List.setIfInBounds_toArray, List.set_cons_zero, List.set_cons_succ]
    refine wpAnyH_ready (rs := [17]) (by kernel_rfl) (by simp) ?_
    refine AllReadyH.cons (o := ⟨some 23, _, _, _, _, _⟩) rfl (fun K hK => ?_) AllReadyH.nil
    rw [if_pos (by kernel_rfl)]
    go_simp
    go_at_call 110
    refine (HCS.out _).mono ?_
    rw [HSX.out]
    rintro e v3 ⟨rfl, hb3⟩
    have HKEEP : Hid (Below w2.heap.size w2 v3) := Lib.hid (by first | exact HKEEP.out.drew.trans (hb3.mono HKEEP.out.size) | exact HKEEP.out.trans (hb3.mono HKEEP.out.size))
    clear hb3
    have HS1 : Hid _ := Lib.hid (HV7.out v3 HKEEP.out)
    refine hK.out _ _ HS1.out (fun _ => ?_)
    clear hK K
    try simp only [Act.put, List.setIfInBounds_toArray, List.set_cons_zero, List.set_cons_succ]
    refine wpAnyH_take (i := 18) (oi := ⟨some 24, _, _, _, _, _⟩) (v := .bool true) rfl (by kernel_rfl) (by kernel_rfl) (by kernel_rfl) (fun _ _ _ h => h) (Or.inl ⟨by kernel_rfl, fun w9 hS => ?_⟩) HS1.out ?_
    · clear hS
      go_simp
    try simp only [Act.put, List.setIfInBounds_toArray, List.set_cons_zero, List.set_cons_succ]
    refine wpAnyH_take (i := 19) (oi := ⟨some 25, _, _, _, _, _⟩) (v := .bool true) rfl (by kernel_rfl) (by kernel_rfl) (by kernel_rfl) (fun _ _ _ h => h) (Or.inl ⟨by kernel_rfl, fun w9 hS => ?_⟩) HS1.out ?_
    · clear hS
      go_simp
    try simp only [Act.put, List.setIfInBounds_toArray, List.set_cons_zero, List.set_cons_succ]
    refine wpAnyH_done (by kernel_rfl) ?_ _
    have HFIN : Hid (Below w.heap.size w v3) := Lib.hid (bthen HB2.out HKEEP.out)
    have HZZ := Lib.hid (HRZ.out.below HKEEP.out)
    have z0 := HZZ.out.1.1
    have z1 := HZZ.out.1.2.1
    have z2 := HZZ.out.1.2.2.1
    have z3 := HZZ.out.1.2.2.2.1
    have z4 := HZZ.out.1.2.2.2.2.1
    have z5 := HZZ.out.1.2.2.2.2.2
    have f0 := HZZ.out.2.2 0
    have f1 := HZZ.out.2.2 1
    have f2 := HZZ.out.2.2 2
    have f3 := HZZ.out.2.2 3
    have f4 := HZZ.out.2.2 4
    have f5 := HZZ.out.2.2 5
    go_wp2
    (try simp only [Exit.inBlock, Exit.then])
    refine bodyPost_ret (v := .tuple #[.agg #[.string ⟨#[]⟩, .int .i64 0, .int .i64 0, .int .i64 0, .int .i64 0, .bool false], .bool false]) ?_ rfl ⟨⟨⟨#[]⟩, 0, 0, 0, 0, false, rfl⟩, ?_⟩
    · rw [results_cell_tmp rfl]; go_simp
    · exact below6 HFIN.out (w.heap.size + 1) (Nat.le_succ _) _ _ _ _ _ _

set_option maxRecDepth 20000 in
set_option maxHeartbeats 4000000 in
theorem refChannel_yes (X : ScX) (k : Nat) (l : List Int) (x : Int) (w : World) (hm : X.n3 = l.length) (hA : CA w X.a3 l) (hk : k < l.length) (HL : Hid (l.getD k 0 = x)) (HSX : Hid (scB X.n1 x = true)) :
    Calls Tryz.prog 73 #[.int .i64 k, X.v] w (ChanP w true) := by
    have HA := Lib.hid hA
    have hkm : k < X.n3 := by omega
    have HNK := Lib.hid hk
    clear hm hk hA
    have hd : decide ((k : Int) < 0) = false := decide_eq_false (by omega)
    have hd2 : decide (X.n3 ≤ k) = false := decide_eq_false (by omega)
    obtain ⟨b, o, ha, hb, hcl⟩ := HA.out (by have := HNK.out; omega)
    obtain ⟨s0, p, q, r, t0, h0, h1, h2, h3, h4, h5⟩ := hcl k HNK.out
    rw [HL.out] at h1
    have HE3 := Lib.hid ha
    clear ha HA
    have HV6 : Hid (∀ W, Below w.heap.size w W → W.cell? ⟨b, o + k * 6, none⟩ = some (.string s0) ∧ W.cell? ⟨b, o + k * 6 + 1, none⟩ = some (.int .i64 x) ∧ W.cell? ⟨b, o + k * 6 + 2, none⟩ = some (.int .i64 p) ∧ W.cell? ⟨b, o + k * 6 + 3, none⟩ = some (.int .i64 q) ∧ W.cell? ⟨b, o + k * 6 + 4, none⟩ = some (.int .i64 r) ∧ W.cell? ⟨b, o + k * 6 + 5, none⟩ = some (.bool t0)) := Lib.hid (fun W hW =>
      ⟨(hW.cell (p := ⟨b, o + k * 6, none⟩) hb).trans h0, (hW.cell (p := ⟨b, o + k * 6 + 1, none⟩) hb).trans h1, (hW.cell (p := ⟨b, o + k * 6 + 2, none⟩) hb).trans h2, (hW.cell (p := ⟨b, o + k * 6 + 3, none⟩) hb).trans h3, (hW.cell (p := ⟨b, o + k * 6 + 4, none⟩) hb).trans h4, (hW.cell (p := ⟨b, o + k * 6 + 5, none⟩) hb).trans h5⟩)
    clear hcl
    unfold ScX.v
    go_enter Tryz.func73, Tryz.ntmps73
    go_upto_region 1 with (fail)
    obtain ⟨w2, HW2⟩ : ∃ w2, w2 = (w.alloc (.cells #[.slice X.a1 X.n1 X.c1, .slice X.a2 X.n2 X.c2, .slice X.a3 X.n3 X.c3, .slice X.a4 X.n4 X.c4, .slice X.a5 X.n5 X.c5, .int .i64 X.self] 28)).alloc (.cells #[.string ⟨#[]⟩, .int .i64 0, .int .i64 0, .int .i64 0, .int .i64 0, .bool false] 96) := ⟨_, rfl⟩
    have HB2 : Hid (Below w.heap.size w w2) := Lib.hid (by rw [HW2]; exact bthen (below_alloc1 _ _) (below_alloc1 _ _))
    have HBX : Hid (Bx w2 w.heap.size X) := Lib.hid (by rw [HW2]; exact (Bx.new w X 28).below (below_alloc1 _ _))
    have HV7 : Hid (∀ W, Below w2.heap.size w2 W → W.cell? ⟨w.heap.size, 0, none⟩ = some (.slice X.a1 X.n1 X.c1) ∧ W.cell? ⟨w.heap.size, 1, none⟩ = some (.slice X.a2 X.n2 X.c2) ∧ W.cell? ⟨w.heap.size, 2, none⟩ = some (.slice X.a3 X.n3 X.c3) ∧ W.cell? ⟨w.heap.size, 3, none⟩ = some (.slice X.a4 X.n4 X.c4) ∧ W.cell? ⟨w.heap.size, 4, none⟩ = some (.slice X.a5 X.n5 X.c5) ∧ W.cell? ⟨w.heap.size, 5, none⟩ = some (.int .i64 X.self) ∧ W.cell? ⟨b, o + k * 6 + 1, none⟩ = some (.int .i64 x)) := Lib.hid (fun W hW => by
      obtain ⟨⟨g0, g1, g2, g3, g4, g5⟩, _⟩ := HBX.out.below hW
      exact ⟨g0, g1, g2, g3, g4, g5, (HV6.out W (bthen HB2.out hW)).2.1⟩)
    have HRZ : Hid (RZC w2 (w.heap.size + 1)) := Lib.hid (by rw [HW2]; exact ⟨⟨World.cell?_alloc_at _ _ _ _ (by simp), World.cell?_alloc_at _ _ _ _ (by simp), World.cell?_alloc_at _ _ _ _ (by simp), World.cell?_alloc_at _ _ _ _ (by simp), World.cell?_alloc_at _ _ _ _ (by simp), World.cell?_alloc_at _ _ _ _ (by simp)⟩, by simp, fun i => World.frozen?_alloc_at _ _ _ _ (by simp)⟩)
    rw [← HW2]
    have HKEEP : Hid (Below w2.heap.size w2 w2) := Lib.hid (Below.refl _ _)
    clear HW2 h0 h1 h2 h3 h4 h5
    have HCS : Hid (∀ W, Calls Tryz.prog 110 #[.int .i64 x, .agg #[.slice X.a1 X.n1 X.c1, .slice X.a2 X.n2 X.c2, .slice X.a3 X.n3 X.c3, .slice X.a4 X.n4 X.c4, .slice X.a5 X.n5 X.c5, .int .i64 X.self]] W fun e w' => e = .returned (.bool (scB X.n1 x)) ∧ Below W.heap.size W w') := Lib.hid (fun W => refScalar_any X x W)
    rw [HE3.out] at *
    refine wp_region_held_drew (S := (fun w' => w'.cell? ⟨w.heap.size, 0, none⟩ = some (.slice X.a1 X.n1 X.c1) ∧ w'.cell? ⟨w.heap.size, 1, none⟩ = some (.slice X.a2 X.n2 X.c2) ∧ w'.cell? ⟨w.heap.size, 2, none⟩ = some (.slice (some ⟨b, o, none⟩) X.n3 X.c3) ∧ w'.cell? ⟨w.heap.size, 3, none⟩ = some (.slice X.a4 X.n4 X.c4) ∧ w'.cell? ⟨w.heap.size, 4, none⟩ = some (.slice X.a5 X.n5 X.c5) ∧ w'.cell? ⟨w.heap.size, 5, none⟩ = some (.int .i64 X.self) ∧ w'.cell? ⟨b, o + k * 6 + 1, none⟩ = some (.int .i64 x))) (by kernel_rfl) (HV7.out _ (Below.refl _ w2).drew) (fun hS0 => ?_)
    have HS0 := Lib.hid hS0
    clear hS0
    simp only [Array.replicate, List.replicate]
    refine wpAnyH_take (i := 0) (oi := ⟨some 6, _, _, _, _, _⟩) (v := .int .i64 (k : Int)) rfl (by kernel_rfl) (by kernel_rfl) (by kernel_rfl) (fun _ _ _ h => h) (Or.inl ⟨by kernel_rfl, fun w9 hS => ?_⟩) HS0.out ?_
    · clear hS
      go_simp
    try simp only [Act.put, List.setIfInBounds_toArray, List.set_cons_zero, List.set_cons_succ]
    refine wpAnyH_take (i := 1) (oi := ⟨some 7, _, _, _, _, _⟩) (v := .bool false) rfl (by kernel_rfl) (by kernel_rfl) (by kernel_rfl) (fun _ _ _ h => h) (Or.inl ⟨by kernel_rfl, fun w9 hS => ?_⟩) HS0.out ?_
    · clear hS
      go_simp
    try simp only [Act.put, List.setIfInBounds_toArray, List.set_cons_zero, List.set_cons_succ]
    refine wpAnyH_take (i := 2) (oi := ⟨some 8, _, _, _, _, _⟩) (v := .bool false) rfl (by kernel_rfl) (by kernel_rfl) (by kernel_rfl) (fun _ _ _ h => h) (Or.inl ⟨by kernel_rfl, fun w9 hS => ?_⟩) HS0.out ?_
    · clear hS
      go_simp
    try simp only [Act.put, List.setIfInBounds_toArray, List.set_cons_zero, List.set_cons_succ]
    refine wpAnyH_take (i := 3) (oi := ⟨some 9, _, _, _, _, _⟩) (v := .int .i64 (k : Int)) rfl (by kernel_rfl) (by kernel_rfl) (by kernel_rfl) (fun _ _ _ h => h) (Or.inl ⟨by kernel_rfl, fun w9 hS => ?_⟩) HS0.out ?_
    · clear hS
      go_simp
    try simp only [Act.put, List.setIfInBounds_toArray, List.set_cons_zero, List.set_cons_succ]
    refine wpAnyH_take (i := 4) (oi := ⟨some 10, _, _, _, _, _⟩) (v := .pointer (some ⟨w.heap.size, 2, none⟩)) rfl (by kernel_rfl) (by kernel_rfl) (by kernel_rfl) (fun _ _ _ h => h) (Or.inl ⟨by kernel_rfl, fun w9 hS => ?_⟩) HS0.out ?_
    · clear hS
      go_simp
    try simp only [Act.put, List.setIfInBounds_toArray, List.set_cons_zero, List.set_cons_succ]
    refine wpAnyH_take (i := 5) (oi := ⟨some 11, _, _, _, _, _⟩) (v := .slice (some ⟨b, o, none⟩) X.n3 X.c3) rfl (by kernel_rfl) (by kernel_rfl) (by kernel_rfl) (fun _ _ _ h => h) (Or.inl ⟨by kernel_rfl, fun w9 hS => ?_⟩) HS0.out ?_
    · obtain ⟨s0, s1, s2, s3, s4, s5, s6⟩ := hS
      go_simp
    try simp only [Act.put, List.setIfInBounds_toArray, List.set_cons_zero, List.set_cons_succ]
    refine wpAnyH_take (i := 6) (oi := ⟨some 12, _, _, _, _, _⟩) (v := .int .i64 (X.n3 : Int)) rfl (by kernel_rfl) (by kernel_rfl) (by kernel_rfl) (fun _ _ _ h => h) (Or.inl ⟨by kernel_rfl, fun w9 hS => ?_⟩) HS0.out ?_
    · clear hS
      go_simp
    try simp only [Act.put, List.setIfInBounds_toArray, List.set_cons_zero, List.set_cons_succ]
    refine wpAnyH_take (i := 7) (oi := ⟨some 13, _, _, _, _, _⟩) (v := .bool false) rfl (by kernel_rfl) (by kernel_rfl) (by kernel_rfl) (fun _ _ _ h => h) (Or.inl ⟨by kernel_rfl, fun w9 hS => ?_⟩) HS0.out ?_
    · clear hS
      go_simp
    try simp only [Act.put, List.setIfInBounds_toArray, List.set_cons_zero, List.set_cons_succ]
    refine wpAnyH_take (i := 8) (oi := ⟨some 14, _, _, _, _, _⟩) (v := .bool false) rfl (by kernel_rfl) (by kernel_rfl) (by kernel_rfl) (fun _ _ _ h => h) (Or.inl ⟨by kernel_rfl, fun w9 hS => ?_⟩) HS0.out ?_
    · clear hS
      go_simp
    try simp only [Act.put, List.setIfInBounds_toArray, List.set_cons_zero, List.set_cons_succ]
    refine wpAnyH_take (i := 9) (oi := ⟨some 15, _, _, _, _, _⟩) (v := .bool false) rfl (by kernel_rfl) (by kernel_rfl) (by kernel_rfl) (fun _ _ _ h => h) (Or.inl ⟨by kernel_rfl, fun w9 hS => ?_⟩) HS0.out ?_
    · clear hS
      go_simp
    try simp only [Act.put, List.setIfInBounds_toArray, List.set_cons_zero, List.set_cons_succ]
    refine wpAnyH_take (i := 10) (oi := ⟨some 16, _, _, _, _, _⟩) (v := .pointer (some ⟨w.heap.size, 2, none⟩)) rfl (by kernel_rfl) (by kernel_rfl) (by kernel_rfl) (fun _ _ _ h => h) (Or.inl ⟨by kernel_rfl, fun w9 hS => ?_⟩) HS0.out ?_
    · clear hS
      go_simp
    try simp only [Act.put, List.setIfInBounds_toArray, List.set_cons_zero, List.set_cons_succ]
    refine wpAnyH_take (i := 11) (oi := ⟨some 17, _, _, _, _, _⟩) (v := .slice (some ⟨b, o, none⟩) X.n3 X.c3) rfl (by kernel_rfl) (by kernel_rfl) (by kernel_rfl) (fun _ _ _ h => h) (Or.inl ⟨by kernel_rfl, fun w9 hS => ?_⟩) HS0.out ?_
    · obtain ⟨s0, s1, s2, s3, s4, s5, s6⟩ := hS
      go_simp
    try simp only [Act.put, List.setIfInBounds_toArray, List.set_cons_zero, List.set_cons_succ]
    refine wpAnyH_take (i := 12) (oi := ⟨some 18, _, _, _, _, _⟩) (v := .int .i64 (k : Int)) rfl (by kernel_rfl) (by kernel_rfl) (by kernel_rfl) (fun _ _ _ h => h) (Or.inl ⟨by kernel_rfl, fun w9 hS => ?_⟩) HS0.out ?_
    · clear hS
      go_simp
    try simp only [Act.put, List.setIfInBounds_toArray, List.set_cons_zero, List.set_cons_succ]
    refine wpAnyH_take (i := 13) (oi := ⟨some 19, _, _, _, _, _⟩) (v := .pointer (some ⟨b, o + k * 6, none⟩)) rfl (by kernel_rfl) (by kernel_rfl) (by kernel_rfl) (fun _ _ _ h => h) (Or.inl ⟨by kernel_rfl, fun w9 hS => ?_⟩) HS0.out ?_
    · clear hS
      go_simp
    try simp only [Act.put, List.setIfInBounds_toArray, List.set_cons_zero, List.set_cons_succ]
    refine wpAnyH_take (i := 14) (oi := ⟨some 20, _, _, _, _, _⟩) (v := .pointer (some ⟨b, o + k * 6 + 1, none⟩)) rfl (by kernel_rfl) (by kernel_rfl) (by kernel_rfl) (fun _ _ _ h => h) (Or.inl ⟨by kernel_rfl, fun w9 hS => ?_⟩) HS0.out ?_
    · clear hS
      go_simp
    try simp only [Act.put, List.setIfInBounds_toArray, List.set_cons_zero, List.set_cons_succ]
    refine wpAnyH_take (i := 15) (oi := ⟨some 21, _, _, _, _, _⟩) (v := .int .i64 x) rfl (by kernel_rfl) (by kernel_rfl) (by kernel_rfl) (fun _ _ _ h => h) (Or.inl ⟨by kernel_rfl, fun w9 hS => ?_⟩) HS0.out ?_
    · obtain ⟨s0, s1, s2, s3, s4, s5, s6⟩ := hS
      go_simp
    try simp only [Act.put, List.setIfInBounds_toArray, List.set_cons_zero, List.set_cons_succ]
    refine wpAnyH_take (i := 16) (oi := ⟨some 22, _, _, _, _, _⟩) (v := .agg #[.slice X.a1 X.n1 X.c1, .slice X.a2 X.n2 X.c2, .slice (some ⟨b, o, none⟩) X.n3 X.c3, .slice X.a4 X.n4 X.c4, .slice X.a5 X.n5 X.c5, .int .i64 X.self]) rfl (by kernel_rfl) (by kernel_rfl) (by kernel_rfl) (fun _ _ _ h => h) (Or.inl ⟨by kernel_rfl, fun w9 hS => ?_⟩) HS0.out ?_
    · obtain ⟨s0, s1, s2, s3, s4, s5, s6⟩ := hS
      go_simp
    try simp only [Act.put, List.setIfInBounds_toArray, List.set_cons_zero, List.set_cons_succ]
    refine wpAnyH_ready (rs := [17]) (by kernel_rfl) (by simp) ?_
    refine AllReadyH.cons (o := ⟨some 23, _, _, _, _, _⟩) rfl (fun K hK => ?_) AllReadyH.nil
    rw [if_pos (by kernel_rfl)]
    go_simp
    go_at_call 110
    refine (HCS.out _).mono ?_
    rw [HSX.out]
    rintro e v3 ⟨rfl, hb3⟩
    have HKEEP : Hid (Below w2.heap.size w2 v3) := Lib.hid (by first | exact HKEEP.out.drew.trans (hb3.mono HKEEP.out.size) | exact HKEEP.out.trans (hb3.mono HKEEP.out.size))
    clear hb3
    have HS1 : Hid _ := Lib.hid (HV7.out v3 HKEEP.out)
    refine hK.out _ _ HS1.out (fun _ => ?_)
    clear hK K
    try simp only [Act.put, List.setIfInBounds_toArray, List.set_cons_zero, List.set_cons_succ]
    refine wpAnyH_take (i := 18) (oi := ⟨some 24, _, _, _, _, _⟩) (v := .bool false) rfl (by kernel_rfl) (by kernel_rfl) (by kernel_rfl) (fun _ _ _ h => h) (Or.inl ⟨by kernel_rfl, fun w9 hS => ?_⟩) HS1.out ?_
    · clear hS
      go_simp
    try simp only [Act.put, List.setIfInBounds_toArray, List.set_cons_zero, List.set_cons_succ]
    refine wpAnyH_take (i := 19) (oi := ⟨some 25, _, _, _, _, _⟩) (v := .bool false) rfl (by kernel_rfl) (by kernel_rfl) (by kernel_rfl) (fun _ _ _ h => h) (Or.inl ⟨by kernel_rfl, fun w9 hS => ?_⟩) HS1.out ?_
    · clear hS
      go_simp
    try simp only [Act.put, List.setIfInBounds_toArray, List.set_cons_zero, List.set_cons_succ]
    refine wpAnyH_done (by kernel_rfl) ?_ _
    have HFIN : Hid (Below w.heap.size w v3) := Lib.hid (bthen HB2.out HKEEP.out)
    have HZZ := Lib.hid (HRZ.out.below HKEEP.out)
    have z0 := HZZ.out.1.1
    have z1 := HZZ.out.1.2.1
    have z2 := HZZ.out.1.2.2.1
    have z3 := HZZ.out.1.2.2.2.1
    have z4 := HZZ.out.1.2.2.2.2.1
    have z5 := HZZ.out.1.2.2.2.2.2
    have f0 := HZZ.out.2.2 0
    have f1 := HZZ.out.2.2 1
    have f2 := HZZ.out.2.2 2
    have f3 := HZZ.out.2.2 3
    have f4 := HZZ.out.2.2 4
    have f5 := HZZ.out.2.2 5
    obtain ⟨y0, y1, y2, y3, y4, y5⟩ := HV6.out v3 HFIN.out
    obtain ⟨_, _, x2, _⟩ := HS1.out
    go_wp2
    (try simp only [Exit.inBlock, Exit.then])
    refine bodyPost_ret (v := .tuple #[.agg #[.string s0, .int .i64 x, .int .i64 p, .int .i64 q, .int .i64 r, .bool t0], .bool true]) ?_ rfl ⟨⟨s0, x, p, q, r, t0, rfl⟩, ?_⟩
    · rw [results_cell_tmp rfl]; go_simp
    · exact below6 HFIN.out (w.heap.size + 1) (Nat.le_succ _) _ _ _ _ _ _

theorem refChannel_any (X : ScX) (l : List Int) (n : Int) (w : World) (hm : X.n3 = l.length) (hA : CA w X.a3 l) : Calls Tryz.prog 73 #[.int .i64 n, X.v] w (ChanP w (chanB X.n1 l n)) := by
  by_cases hn : 0 ≤ n ∧ n < X.n3
  · obtain ⟨k, rfl⟩ : ∃ k : Nat, n = k := ⟨n.toNat, by omega⟩
    by_cases hx : 0 ≤ l.getD k 0 ∧ l.getD k 0 ≤ X.n1
    · have e : chanB X.n1 l k = true := decide_eq_true ⟨by omega, by omega, by rw [Int.toNat_natCast]; exact hx.1, by rw [Int.toNat_natCast]; exact hx.2⟩
      rw [e]
      exact refChannel_yes X k l _ w hm hA (by omega) (Lib.hid rfl) (scB_yes hx.1 hx.2)
    · have e : chanB X.n1 l k = false := decide_eq_false (by rw [Int.toNat_natCast]; intro h; exact hx h.2.2)
      rw [e]
      exact refChannel_bad X k l _ w hm hA (by omega) (Lib.hid rfl) (scB_no (by omega))
  · have e : chanB X.n1 l n = false := decide_eq_false (by omega)
    rw [e]
    exact refChannel_out X n w (by omega)
end Go.Proofs.YtmnigdphikoljaaGreatDoor
