/- Contracts that the claim stands on, several texts in one: ExprRefVar. -/
import Derived.IntWalk
import Derived.Deep.RegionHeld3
import Derived.Laws.ResultCell
import Derived.Test.YtmnigdphikoljaaGreatDoorPut1
import Derived.Test.YtmnigdphikoljaaGreatDoorPut2
import Derived.Test.YtmnigdphikoljaaGreatDoorPut3
import Derived.Test.YtmnigdphikoljaaGreatDoorPut4
import Derived.Test.YtmnigdphikoljaaGreatDoorPut5
import Derived.Test.YtmnigdphikoljaaGreatDoorPut6
import Derived.Test.YtmnigdphikoljaaGreatDoorPut7
import Derived.Test.YtmnigdphikoljaaGreatDoorPut8
import Derived.Test.YtmnigdphikoljaaGreatDoorPut9
import Derived.Test.YtmnigdphikoljaaGreatDoorPut10
import Derived.Test.YtmnigdphikoljaaGreatDoorPut11
import Derived.Test.YtmnigdphikoljaaGreatDoorPut12
import Derived.Test.YtmnigdphikoljaaGreatDoorPut13
import Derived.Test.YtmnigdphikoljaaGreatDoorPut14
import Derived.Test.YtmnigdphikoljaaGreatDoorPut15
import Derived.Test.YtmnigdphikoljaaGreatDoorPut16
import Derived.Test.YtmnigdphikoljaaGreatDoorPut17
import Derived.Test.YtmnigdphikoljaaGreatDoorPut18
import Derived.Test.YtmnigdphikoljaaGreatDoorPut19
import Derived.Test.YtmnigdphikoljaaGreatDoorPut20
import Derived.Test.YtmnigdphikoljaaGreatDoorPut21
import Derived.Test.YtmnigdphikoljaaGreatDoorPut22
import Derived.Test.YtmnigdphikoljaaGreatDoorPut23
namespace Go.Proofs.YtmnigdphikoljaaGreatDoor
open Go.ChangeShapes Go.WideShapes Go.ChangeAt Go.RowKit

def scB (nsc : Nat) (n : Int) : Bool := decide (0 ≤ n ∧ n ≤ nsc)
theorem refScalar_any (X : ScX) (n : Int) (w : World) : Calls Tryz.prog 110 #[.int .i64 n, X.v] w fun e w' => e = .returned (.bool (scB X.n1 n)) ∧ Below w.heap.size w w' := by
  by_cases h1 : n < 0
  · have HE : Hid (scB X.n1 n = false) := Lib.hid (decide_eq_false (by omega))
    unfold ScX.v
    go_enter Tryz.func110, Tryz.ntmps110
    go_wp2
    go_ret
    exact ⟨by rw [HE.out]; rfl, below_alloc1 _ _⟩
  · by_cases h2 : n ≤ X.n1
    · have HE : Hid (scB X.n1 n = true) := Lib.hid (decide_eq_true (by omega))
      unfold ScX.v
      go_enter Tryz.func110, Tryz.ntmps110
      go_wp2
      go_ret
      exact ⟨by rw [HE.out]; rfl, below_alloc1 _ _⟩
    · have HE : Hid (scB X.n1 n = false) := Lib.hid (decide_eq_false (by omega))
      unfold ScX.v
      go_enter Tryz.func110, Tryz.ntmps110
      go_wp2
      go_ret
      exact ⟨by rw [HE.out]; rfl, below_alloc1 _ _⟩
theorem refKindOf_any (s : Int) (w : World) (h1 : 0 ≤ s) (h2 : s ≤ 1000000000000000) : Calls Tryz.prog 72 #[.int .i64 s] w fun e w' => e = .returned (.int .i64 (kindOf s)) ∧ w = w' := by
  by_cases h : s = 0
  · subst h
    go_enter Tryz.func72, Tryz.ntmps72
    go_wp2
    go_ret
    exact ⟨rfl, rfl⟩
  · have HE : Hid (kindOf s = 1 + s) := Lib.hid (if_neg h)
    have h00 : (s == 0) = false := by simpa using h
    go_enter Tryz.func72, Tryz.ntmps72
    go_wp2
    go_ret
    exact ⟨by rw [HE.out]; rfl, rfl⟩

/-- The cells that Variable reads. -/
def VC (W : World) (bx b q : Nat) (X : ScX) (x y : Int) : Prop := Bx W bx X ∧ W.cell? ⟨b, q + 1, none⟩ = some (.int .i64 x) ∧ W.cell? ⟨b, q + 2, none⟩ = some (.int .i64 y) ∧ b < W.heap.size
theorem VC.below {W W' : World} {bx b q : Nat} {X : ScX} {x y : Int} (h : VC W bx b q X x y) (k : Below W.heap.size W W') : VC W' bx b q X x y :=
  ⟨h.1.below k, (k.cell (p := ⟨b, q + 1, none⟩) h.2.2.2).trans h.2.1, (k.cell (p := ⟨b, q + 2, none⟩) h.2.2.2).trans h.2.2.1, Nat.lt_of_lt_of_le h.2.2.2 k.size⟩

theorem below6 {B : Nat} {a w : World} (h : Below B a w) (z : Nat) (hz : B ≤ z) (v0 v1 v2 v3 v4 v5 : Value) : Below B a ((((((w.setCell ⟨z, 0, none⟩ v0).setCell ⟨z, 1, none⟩ v1).setCell ⟨z, 2, none⟩ v2).setCell ⟨z, 3, none⟩ v3).setCell ⟨z, 4, none⟩ v4).setCell ⟨z, 5, none⟩ v5) :=
  (((((h.setCell (p := ⟨z, 0, none⟩) hz v0).setCell (p := ⟨z, 1, none⟩) hz v1).setCell (p := ⟨z, 2, none⟩) hz v2).setCell (p := ⟨z, 3, none⟩) hz v3).setCell (p := ⟨z, 4, none⟩) hz v4).setCell (p := ⟨z, 5, none⟩) hz v5
/-- The result's cells. -/
def RZ (W : World) (z : Nat) : Prop := (W.cell? ⟨z, 0, none⟩ = some (.string ⟨#[]⟩) ∧ W.cell? ⟨z, 1, none⟩ = some (.int .i64 0) ∧ W.cell? ⟨z, 2, none⟩ = some (.int .i64 0) ∧ W.cell? ⟨z, 3, none⟩ = some (.int .i64 0) ∧ W.cell? ⟨z, 4, none⟩ = some (.int .i64 0) ∧ W.cell? ⟨z, 5, none⟩ = some (.int .i64 0)) ∧ z < W.heap.size ∧ ∀ i, W.frozen? ⟨z, i, none⟩ = false
theorem RZ.below {w w' : World} {b : Nat} (h : RZ w b) (k : Below w.heap.size w w') : RZ w' b := by
  obtain ⟨⟨c0, c1, c2, c3, c4, c5⟩, hb, hf⟩ := h
  exact ⟨⟨(k.cell (p := ⟨b, 0, none⟩) hb).trans c0, (k.cell (p := ⟨b, 1, none⟩) hb).trans c1, (k.cell (p := ⟨b, 2, none⟩) hb).trans c2, (k.cell (p := ⟨b, 3, none⟩) hb).trans c3, (k.cell (p := ⟨b, 4, none⟩) hb).trans c4, (k.cell (p := ⟨b, 5, none⟩) hb).trans c5⟩, Nat.lt_of_lt_of_le hb k.size, fun i => (k.frozen (p := ⟨b, i, none⟩) hb).trans (hf i)⟩
theorem vc8 {W : World} {bx b q : Nat} {X : ScX} {x y : Int} (v : VC W bx b q X x y) : W.cell? ⟨bx, 0, none⟩ = some (.slice X.a1 X.n1 X.c1) ∧ W.cell? ⟨bx, 1, none⟩ = some (.slice X.a2 X.n2 X.c2) ∧ W.cell? ⟨bx, 2, none⟩ = some (.slice X.a3 X.n3 X.c3) ∧ W.cell? ⟨bx, 3, none⟩ = some (.slice X.a4 X.n4 X.c4) ∧ W.cell? ⟨bx, 4, none⟩ = some (.slice X.a5 X.n5 X.c5) ∧ W.cell? ⟨bx, 5, none⟩ = some (.int .i64 X.self) ∧ W.cell? ⟨b, q + 1, none⟩ = some (.int .i64 x) ∧ W.cell? ⟨b, q + 2, none⟩ = some (.int .i64 y) :=
  ⟨v.1.1.1, v.1.1.2.1, v.1.1.2.2.1, v.1.1.2.2.2.1, v.1.1.2.2.2.2.1, v.1.1.2.2.2.2.2, v.2.1, v.2.2.1⟩

set_option maxRecDepth 20000 in
set_option maxHeartbeats 4000000 in
theorem refVariable_out (X : ScX) (A : Option Addr) (m c : Nat) (n : Int) (w : World) (hc : n < 0 ∨ (m : Int) ≤ n) :
    Calls Tryz.prog 71 #[.slice A m c, .int .i64 n, X.v] w fun e w' => e = .returned (.tuple #[.agg #[.string ⟨#[]⟩, .int .i64 0, .int .i64 0, .int .i64 0, .int .i64 0, .int .i64 0], .bool false]) ∧ Below w.heap.size w w' := by
  rcases hc with hc | hc
  · have hd : decide (n < 0) = true := decide_eq_true hc
    unfold ScX.v
    go_enter Tryz.func71, Tryz.ntmps71
    go_upto_region 1 with (fail)
    go_quiet (fail)
    go_wp2
    (try simp only [Exit.inBlock, Exit.then])
    refine bodyPost_ret (v := .tuple #[.agg #[.string ⟨#[]⟩, .int .i64 0, .int .i64 0, .int .i64 0, .int .i64 0, .int .i64 0], .bool false]) ?_ rfl ⟨rfl, ?_⟩
    · rw [results_cell_tmp rfl]; go_simp
    · exact below6 (below_drewN (bthen (below_alloc1 _ _) (below_alloc1 _ _)) _) (w.heap.size + 1) (Nat.le_succ _) _ _ _ _ _ _
  · have hd : decide (n < 0) = false := decide_eq_false (by omega)
    have hd2 : decide ((m : Int) ≤ n) = true := decide_eq_true hc
    unfold ScX.v
    go_enter Tryz.func71, Tryz.ntmps71
    go_upto_region 1 with (fail)
    go_quiet (fail)
    go_wp2
    (try simp only [Exit.inBlock, Exit.then])
    refine bodyPost_ret (v := .tuple #[.agg #[.string ⟨#[]⟩, .int .i64 0, .int .i64 0, .int .i64 0, .int .i64 0, .int .i64 0], .bool false]) ?_ rfl ⟨rfl, ?_⟩
    · rw [results_cell_tmp rfl]; go_simp
    · exact below6 (below_drewN (bthen (below_alloc1 _ _) (below_alloc1 _ _)) _) (w.heap.size + 1) (Nat.le_succ _) _ _ _ _ _ _

set_option maxRecDepth 20000 in
set_option maxHeartbeats 4000000 in
theorem refVariable_bad1 (X : ScX) (A : Option Addr) (m c k : Nat) (l : List (Int × Int)) (x y : Int) (w : World) (hm : m = l.length) (hA : VA w A l) (hk : k < l.length) (HL : Hid (l.getD k (0, 0) = (x, y))) (HSX : Hid (scB X.n1 x = false)) :
    Calls Tryz.prog 71 #[.slice A m c, .int .i64 k, X.v] w fun e w' => e = .returned (.tuple #[.agg #[.string ⟨#[]⟩, .int .i64 0, .int .i64 0, .int .i64 0, .int .i64 0, .int .i64 0], .bool false]) ∧ Below w.heap.size w w' := by
    have HA := Lib.hid hA
    have hkm : k < m := by omega
    have HNK := Lib.hid hk
    clear hm hk hA
    have hd : decide ((k : Int) < 0) = false := decide_eq_false (by omega)
    have hd2 : decide (m ≤ k) = false := decide_eq_false (by omega)
    obtain ⟨b, o, rfl, hb, hcl⟩ := HA.out (by have := HNK.out; omega)
    obtain ⟨s0, p, q, r, h0, h1, h2, h3, h4, h5⟩ := hcl k HNK.out
    rw [HL.out] at h1 h2
    simp only at h1 h2
    have HV6 : Hid (∀ W, Below w.heap.size w W → W.cell? ⟨b, o + k * 6, none⟩ = some (.string s0) ∧ W.cell? ⟨b, o + k * 6 + 1, none⟩ = some (.int .i64 x) ∧ W.cell? ⟨b, o + k * 6 + 2, none⟩ = some (.int .i64 y) ∧ W.cell? ⟨b, o + k * 6 + 3, none⟩ = some (.int .i64 p) ∧ W.cell? ⟨b, o + k * 6 + 4, none⟩ = some (.int .i64 q) ∧ W.cell? ⟨b, o + k * 6 + 5, none⟩ = some (.int .i64 r)) := Lib.hid (fun W hW =>
      ⟨(hW.cell (p := ⟨b, o + k * 6, none⟩) hb).trans h0, (hW.cell (p := ⟨b, o + k * 6 + 1, none⟩) hb).trans h1, (hW.cell (p := ⟨b, o + k * 6 + 2, none⟩) hb).trans h2, (hW.cell (p := ⟨b, o + k * 6 + 3, none⟩) hb).trans h3, (hW.cell (p := ⟨b, o + k * 6 + 4, none⟩) hb).trans h4, (hW.cell (p := ⟨b, o + k * 6 + 5, none⟩) hb).trans h5⟩)
    clear hcl
    unfold ScX.v
    go_enter Tryz.func71, Tryz.ntmps71
    go_upto_region 1 with (fail)
    obtain ⟨w2, HW2⟩ : ∃ w2, w2 = (w.alloc (.cells #[.slice X.a1 X.n1 X.c1, .slice X.a2 X.n2 X.c2, .slice X.a3 X.n3 X.c3, .slice X.a4 X.n4 X.c4, .slice X.a5 X.n5 X.c5, .int .i64 X.self] 28)).alloc (.cells #[.string ⟨#[]⟩, .int .i64 0, .int .i64 0, .int .i64 0, .int .i64 0, .int .i64 0] 79) := ⟨_, rfl⟩
    have HB2 : Hid (Below w.heap.size w w2) := Lib.hid (by rw [HW2]; exact bthen (below_alloc1 _ _) (below_alloc1 _ _))
    have HVC : Hid (VC w2 w.heap.size b (o + k * 6) X x y) := Lib.hid ⟨by rw [HW2]; exact (Bx.new w X 28).below (below_alloc1 _ _), (HB2.out.cell (p := ⟨b, o + k * 6 + 1, none⟩) hb).trans h1, (HB2.out.cell (p := ⟨b, o + k * 6 + 2, none⟩) hb).trans h2, Nat.lt_of_lt_of_le hb HB2.out.size⟩
    have HRZ : Hid (RZ w2 (w.heap.size + 1)) := Lib.hid (by rw [HW2]; exact ⟨⟨World.cell?_alloc_at _ _ _ _ (by simp), World.cell?_alloc_at _ _ _ _ (by simp), World.cell?_alloc_at _ _ _ _ (by simp), World.cell?_alloc_at _ _ _ _ (by simp), World.cell?_alloc_at _ _ _ _ (by simp), World.cell?_alloc_at _ _ _ _ (by simp)⟩, by simp, fun i => World.frozen?_alloc_at _ _ _ _ (by simp)⟩)
    rw [← HW2]
    have HKEEP : Hid (Below w2.heap.size w2 w2) := Lib.hid (Below.refl _ _)
    clear HW2 h0 h1 h2 h3 h4 h5
    refine wp_region_held_drew (S := (fun w' => w'.cell? ⟨w.heap.size, 0, none⟩ = some (.slice X.a1 X.n1 X.c1) ∧ w'.cell? ⟨w.heap.size, 1, none⟩ = some (.slice X.a2 X.n2 X.c2) ∧ w'.cell? ⟨w.heap.size, 2, none⟩ = some (.slice X.a3 X.n3 X.c3) ∧ w'.cell? ⟨w.heap.size, 3, none⟩ = some (.slice X.a4 X.n4 X.c4) ∧ w'.cell? ⟨w.heap.size, 4, none⟩ = some (.slice X.a5 X.n5 X.c5) ∧ w'.cell? ⟨w.heap.size, 5, none⟩ = some (.int .i64 X.self) ∧ w'.cell? ⟨b, o + k * 6 + 1, none⟩ = some (.int .i64 x) ∧ w'.cell? ⟨b, o + k * 6 + 2, none⟩ = some (.int .i64 y))) (by kernel_rfl) (vc8 HVC.out) (fun hS0 => ?_)
    have HS0 := Lib.hid hS0
    clear hS0
    simp only [Array.replicate, List.replicate]
    refine wpAnyH_take (i := 0) (oi := ⟨some 8, _, _, _, _, _⟩) (v := .int .i64 (k : Int)) rfl (by kernel_rfl) (by kernel_rfl) (by kernel_rfl) (fun _ _ _ h => h) (Or.inl ⟨by kernel_rfl, fun w9 hS => ?_⟩) HS0.out ?_
    · clear hS
      go_simp
    try simp only [Act.put, List.setIfInBounds_toArray, List.set_cons_zero, List.set_cons_succ]
    refine wpAnyH_take (i := 1) (oi := ⟨some 9, _, _, _, _, _⟩) (v := .bool false) rfl (by kernel_rfl) (by kernel_rfl) (by kernel_rfl) (fun _ _ _ h => h) (Or.inl ⟨by kernel_rfl, fun w9 hS => ?_⟩) HS0.out ?_
    · clear hS
      go_simp
    try simp only [Act.put, List.setIfInBounds_toArray, List.set_cons_zero, List.set_cons_succ]
    refine wpAnyH_take (i := 2) (oi := ⟨some 10, _, _, _, _, _⟩) (v := .bool false) rfl (by kernel_rfl) (by kernel_rfl) (by kernel_rfl) (fun _ _ _ h => h) (Or.inl ⟨by kernel_rfl, fun w9 hS => ?_⟩) HS0.out ?_
    · clear hS
      go_simp
    try simp only [Act.put, List.setIfInBounds_toArray, List.set_cons_zero, List.set_cons_succ]
    refine wpAnyH_take (i := 3) (oi := ⟨some 11, _, _, _, _, _⟩) (v := .int .i64 (k : Int)) rfl (by kernel_rfl) (by kernel_rfl) (by kernel_rfl) (fun _ _ _ h => h) (Or.inl ⟨by kernel_rfl, fun w9 hS => ?_⟩) HS0.out ?_
    · clear hS
      go_simp
    try simp only [Act.put, List.setIfInBounds_toArray, List.set_cons_zero, List.set_cons_succ]
    refine wpAnyH_take (i := 4) (oi := ⟨some 12, _, _, _, _, _⟩) (v := .slice (some ⟨b, o, none⟩) m c) rfl (by kernel_rfl) (by kernel_rfl) (by kernel_rfl) (fun _ _ _ h => h) (Or.inl ⟨by kernel_rfl, fun w9 hS => ?_⟩) HS0.out ?_
    · clear hS
      go_simp
    try simp only [Act.put, List.setIfInBounds_toArray, List.set_cons_zero, List.set_cons_succ]
    refine wpAnyH_take (i := 5) (oi := ⟨some 13, _, _, _, _, _⟩) (v := .int .i64 (m : Int)) rfl (by kernel_rfl) (by kernel_rfl) (by kernel_rfl) (fun _ _ _ h => h) (Or.inl ⟨by kernel_rfl, fun w9 hS => ?_⟩) HS0.out ?_
    · clear hS
      go_simp
    try simp only [Act.put, List.setIfInBounds_toArray, List.set_cons_zero, List.set_cons_succ]
    refine wpAnyH_take (i := 6) (oi := ⟨some 14, _, _, _, _, _⟩) (v := .bool false) rfl (by kernel_rfl) (by kernel_rfl) (by kernel_rfl) (fun _ _ _ h => h) (Or.inl ⟨by kernel_rfl, fun w9 hS => ?_⟩) HS0.out ?_
    · clear hS
      go_simp
    try simp only [Act.put, List.setIfInBounds_toArray, List.set_cons_zero, List.set_cons_succ]
    refine wpAnyH_take (i := 7) (oi := ⟨some 15, _, _, _, _, _⟩) (v := .bool false) rfl (by kernel_rfl) (by kernel_rfl) (by kernel_rfl) (fun _ _ _ h => h) (Or.inl ⟨by kernel_rfl, fun w9 hS => ?_⟩) HS0.out ?_
    · clear hS
      go_simp
    try simp only [Act.put, List.setIfInBounds_toArray, List.set_cons_zero, List.set_cons_succ]
    refine wpAnyH_take (i := 8) (oi := ⟨some 16, _, _, _, _, _⟩) (v := .bool false) rfl (by kernel_rfl) (by kernel_rfl) (by kernel_rfl) (fun _ _ _ h => h) (Or.inl ⟨by kernel_rfl, fun w9 hS => ?_⟩) HS0.out ?_
    · clear hS
      go_simp
    try simp only [Act.put, List.setIfInBounds_toArray, List.set_cons_zero, List.set_cons_succ]
    refine wpAnyH_take (i := 9) (oi := ⟨some 17, _, _, _, _, _⟩) (v := .slice (some ⟨b, o, none⟩) m c) rfl (by kernel_rfl) (by kernel_rfl) (by kernel_rfl) (fun _ _ _ h => h) (Or.inl ⟨by kernel_rfl, fun w9 hS => ?_⟩) HS0.out ?_
    · clear hS
      go_simp
    try simp only [Act.put, List.setIfInBounds_toArray, List.set_cons_zero, List.set_cons_succ]
    refine wpAnyH_take (i := 10) (oi := ⟨some 18, _, _, _, _, _⟩) (v := .int .i64 (k : Int)) rfl (by kernel_rfl) (by kernel_rfl) (by kernel_rfl) (fun _ _ _ h => h) (Or.inl ⟨by kernel_rfl, fun w9 hS => ?_⟩) HS0.out ?_
    · clear hS
      go_simp
    try simp only [Act.put, List.setIfInBounds_toArray, List.set_cons_zero, List.set_cons_succ]
    refine wpAnyH_take (i := 11) (oi := ⟨some 19, _, _, _, _, _⟩) (v := .pointer (some ⟨b, o + k * 6, none⟩)) rfl (by kernel_rfl) (by kernel_rfl) (by kernel_rfl) (fun _ _ _ h => h) (Or.inl ⟨by kernel_rfl, fun w9 hS => ?_⟩) HS0.out ?_
    · clear hS
      go_simp
    try simp only [Act.put, List.setIfInBounds_toArray, List.set_cons_zero, List.set_cons_succ]
    refine wpAnyH_take (i := 12) (oi := ⟨some 20, _, _, _, _, _⟩) (v := .pointer (some ⟨b, o + k * 6 + 1, none⟩)) rfl (by kernel_rfl) (by kernel_rfl) (by kernel_rfl) (fun _ _ _ h => h) (Or.inl ⟨by kernel_rfl, fun w9 hS => ?_⟩) HS0.out ?_
    · clear hS
      go_simp
    try simp only [Act.put, List.setIfInBounds_toArray, List.set_cons_zero, List.set_cons_succ]
    refine wpAnyH_take (i := 13) (oi := ⟨some 21, _, _, _, _, _⟩) (v := .int .i64 x) rfl (by kernel_rfl) (by kernel_rfl) (by kernel_rfl) (fun _ _ _ h => h) (Or.inl ⟨by kernel_rfl, fun w9 hS => ?_⟩) HS0.out ?_
    · obtain ⟨s0, s1, s2, s3, s4, s5, s6, s7⟩ := hS
      go_simp
    try simp only [Act.put, List.setIfInBounds_toArray, List.set_cons_zero, List.set_cons_succ]
    refine wpAnyH_take (i := 14) (oi := ⟨some 22, _, _, _, _, _⟩) (v := .agg #[.slice X.a1 X.n1 X.c1, .slice X.a2 X.n2 X.c2, .slice X.a3 X.n3 X.c3, .slice X.a4 X.n4 X.c4, .slice X.a5 X.n5 X.c5, .int .i64 X.self]) rfl (by kernel_rfl) (by kernel_rfl) (by kernel_rfl) (fun _ _ _ h => h) (Or.inl ⟨by kernel_rfl, fun w9 hS => ?_⟩) HS0.out ?_
    · obtain ⟨s0, s1, s2, s3, s4, s5, s6, s7⟩ := hS
      go_simp
    try simp only [Act.put, List.setIfInBounds_toArray, List.set_cons_zero, List.set_cons_succ]
    refine wpAnyH_ready (rs := [15]) (by kernel_rfl) (by simp) ?_
    refine AllReadyH.cons (o := ⟨some 23, _, _, _, _, _⟩) rfl (fun K hK => ?_) AllReadyH.nil
    rw [if_pos (by kernel_rfl)]
    go_simp
    go_at_call 110
    refine (refScalar_any X x _).mono ?_
    rw [HSX.out]
    rintro e v3 ⟨rfl, hb3⟩
    have HKEEP : Hid (Below w2.heap.size w2 v3) := Lib.hid (by first | exact HKEEP.out.drew.trans (hb3.mono HKEEP.out.size) | exact HKEEP.out.trans (hb3.mono HKEEP.out.size))
    clear hb3
    have HS1 : Hid _ := Lib.hid (vc8 (HVC.out.below HKEEP.out))
    refine hK.out _ _ HS1.out (fun _ => ?_)
    clear hK K
    try simp only [Act.put, List.setIfInBounds_toArray, List.set_cons_zero, List.set_cons_succ]
    refine wpAnyH_take (i := 16) (oi := ⟨some 24, _, _, _, _, _⟩) (v := .bool true) rfl (by kernel_rfl) (by kernel_rfl) (by kernel_rfl) (fun _ _ _ h => h) (Or.inl ⟨by kernel_rfl, fun w9 hS => ?_⟩) HS1.out ?_
    · clear hS
      go_simp
    try simp only [Act.put, List.setIfInBounds_toArray, List.set_cons_zero, List.set_cons_succ]
    refine wpAnyH_take (i := 17) (oi := ⟨some 25, _, _, _, _, _⟩) (v := .bool true) rfl (by kernel_rfl) (by kernel_rfl) (by kernel_rfl) (fun _ _ _ h => h) (Or.inl ⟨by kernel_rfl, fun w9 hS => ?_⟩) HS1.out ?_
    · clear hS
      go_simp
    try simp only [Act.put, List.setIfInBounds_toArray, List.set_cons_zero, List.set_cons_succ]
    refine wpAnyH_take (i := 18) (oi := ⟨some 26, _, _, _, _, _⟩) (v := .bool true) rfl (by kernel_rfl) (by kernel_rfl) (by kernel_rfl) (fun _ _ _ h => h) (Or.inl ⟨by kernel_rfl, fun w9 hS => ?_⟩) HS1.out ?_
    · clear hS
      go_simp
    try simp only [Act.put, List.setIfInBounds_toArray, List.set_cons_zero, List.set_cons_succ]
    refine wpAnyH_take (i := 19) (oi := ⟨some 27, _, _, _, _, _⟩) (v := undef) rfl (by kernel_rfl) (by kernel_rfl) (by kernel_rfl) (fun _ _ _ h => h) (Or.inr ⟨by kernel_rfl, rfl⟩) HS1.out ?_
    try simp only [Act.put, List.setIfInBounds_toArray, List.set_cons_zero, List.set_cons_succ]
    refine wpAnyH_take (i := 20) (oi := ⟨some 28, _, _, _, _, _⟩) (v := undef) rfl (by kernel_rfl) (by kernel_rfl) (by kernel_rfl) (fun _ _ _ h => h) (Or.inr ⟨by kernel_rfl, rfl⟩) HS1.out ?_
    try simp only [Act.put, List.setIfInBounds_toArray, List.set_cons_zero, List.set_cons_succ]
    refine wpAnyH_take (i := 21) (oi := ⟨some 29, _, _, _, _, _⟩) (v := undef) rfl (by kernel_rfl) (by kernel_rfl) (by kernel_rfl) (fun _ _ _ h => h) (Or.inr ⟨by kernel_rfl, rfl⟩) HS1.out ?_
    try simp only [Act.put, List.setIfInBounds_toArray, List.set_cons_zero, List.set_cons_succ]
    refine wpAnyH_take (i := 22) (oi := ⟨some 30, _, _, _, _, _⟩) (v := undef) rfl (by kernel_rfl) (by kernel_rfl) (by kernel_rfl) (fun _ _ _ h => h) (Or.inr ⟨by kernel_rfl, rfl⟩) HS1.out ?_
    try simp only [Act.put, List.setIfInBounds_toArray, List.set_cons_zero, List.set_cons_succ]
    refine wpAnyH_take (i := 23) (oi := ⟨some 31, _, _, _, _, _⟩) (v := undef) rfl (by kernel_rfl) (by kernel_rfl) (by kernel_rfl) (fun _ _ _ h => h) (Or.inr ⟨by kernel_rfl, rfl⟩) HS1.out ?_
    try simp only [Act.put, List.setIfInBounds_toArray, List.set_cons_zero, List.set_cons_succ]
    refine wpAnyH_take (i := 24) (oi := ⟨some 32, _, _, _, _, _⟩) (v := undef) rfl (by kernel_rfl) (by kernel_rfl) (by kernel_rfl) (fun _ _ _ h => h) (Or.inr ⟨by kernel_rfl, rfl⟩) HS1.out ?_
    try simp only [Act.put, List.setIfInBounds_toArray, List.set_cons_zero, List.set_cons_succ]
    refine wpAnyH_take (i := 25) (oi := ⟨some 33, _, _, _, _, _⟩) (v := undef) rfl (by kernel_rfl) (by kernel_rfl) (by kernel_rfl) (fun _ _ _ h => h) (Or.inr ⟨by kernel_rfl, rfl⟩) HS1.out ?_
    try simp only [Act.put, List.setIfInBounds_toArray, List.set_cons_zero, List.set_cons_succ]
    refine wpAnyH_take (i := 26) (oi := ⟨some 34, _, _, _, _, _⟩) (v := undef) rfl (by kernel_rfl) (by kernel_rfl) (by kernel_rfl) (fun _ _ _ h => h) (Or.inr ⟨by kernel_rfl, rfl⟩) HS1.out ?_
    try simp only [Act.put, List.setIfInBounds_toArray, List.set_cons_zero, List.set_cons_succ]
    refine wpAnyH_take (i := 27) (oi := ⟨some 35, _, _, _, _, _⟩) (v := .bool true) rfl (by kernel_rfl) (by kernel_rfl) (by kernel_rfl) (fun _ _ _ h => h) (Or.inl ⟨by kernel_rfl, fun w9 hS => ?_⟩) HS1.out ?_
    · clear hS
      go_simp
    try simp only [Act.put, List.setIfInBounds_toArray, List.set_cons_zero, List.set_cons_succ]
    refine wpAnyH_done (by kernel_rfl) ?_ _
    have HFIN : Hid (Below w.heap.size w v3) := Lib.hid (bthen HB2.out HKEEP.out)
    have HZZ := Lib.hid (HRZ.out.below HKEEP.out)
    have z0 := HZZ.out.1.1
    have z1 := HZZ.out.1.2.1
    have z2 := HZZ.out.1.2.2.1
    have z3 := HZZ.out.1.2.2.2.1
    have z4 := HZZ.out.1.2.2.2.2.1
    have z5 := HZZ.out.1.2.2.2.2.2
    have f0 := HZZ.out.2.2 0
    have f1 := HZZ.out.2.2 1
    have f2 := HZZ.out.2.2 2
    have f3 := HZZ.out.2.2 3
    have f4 := HZZ.out.2.2 4
    have f5 := HZZ.out.2.2 5
    go_wp2
    (try simp only [Exit.inBlock, Exit.then])
    refine bodyPost_ret (v := .tuple #[.agg #[.string ⟨#[]⟩, .int .i64 0, .int .i64 0, .int .i64 0, .int .i64 0, .int .i64 0], .bool false]) ?_ rfl ⟨rfl, ?_⟩
    · rw [results_cell_tmp rfl]; go_simp
    · exact below6 HFIN.out (w.heap.size + 1) (Nat.le_succ _) _ _ _ _ _ _

set_option maxRecDepth 20000 in
set_option maxHeartbeats 4000000 in
theorem refVariable_bad2 (X : ScX) (A : Option Addr) (m c k : Nat) (l : List (Int × Int)) (x y : Int) (w : World) (hm : m = l.length) (hA : VA w A l) (hk : k < l.length) (HL : Hid (l.getD k (0, 0) = (x, y))) (HSX : Hid (scB X.n1 x = true)) (HSY : Hid (scB X.n1 y = false)) :
    Calls Tryz.prog 71 #[.slice A m c, .int .i64 k, X.v] w fun e w' => e = .returned (.tuple #[.agg #[.string ⟨#[]⟩, .int .i64 0, .int .i64 0, .int .i64 0, .int .i64 0, .int .i64 0], .bool false]) ∧ Below w.heap.size w w' := by
    have HA := Lib.hid hA
    have hkm : k < m := by omega
    have HNK := Lib.hid hk
    clear hm hk hA
    have hd : decide ((k : Int) < 0) = false := decide_eq_false (by omega)
    have hd2 : decide (m ≤ k) = false := decide_eq_false (by omega)
    obtain ⟨b, o, rfl, hb, hcl⟩ := HA.out (by have := HNK.out; omega)
    obtain ⟨s0, p, q, r, h0, h1, h2, h3, h4, h5⟩ := hcl k HNK.out
    rw [HL.out] at h1 h2
    simp only at h1 h2
    have HV6 : Hid (∀ W, Below w.heap.size w W → W.cell? ⟨b, o + k * 6, none⟩ = some (.string s0) ∧ W.cell? ⟨b, o + k * 6 + 1, none⟩ = some (.int .i64 x) ∧ W.cell? ⟨b, o + k * 6 + 2, none⟩ = some (.int .i64 y) ∧ W.cell? ⟨b, o + k * 6 + 3, none⟩ = some (.int .i64 p) ∧ W.cell? ⟨b, o + k * 6 + 4, none⟩ = some (.int .i64 q) ∧ W.cell? ⟨b, o + k * 6 + 5, none⟩ = some (.int .i64 r)) := Lib.hid (fun W hW =>
      ⟨(hW.cell (p := ⟨b, o + k * 6, none⟩) hb).trans h0, (hW.cell (p := ⟨b, o + k * 6 + 1, none⟩) hb).trans h1, (hW.cell (p := ⟨b, o + k * 6 + 2, none⟩) hb).trans h2, (hW.cell (p := ⟨b, o + k * 6 + 3, none⟩) hb).trans h3, (hW.cell (p := ⟨b, o + k * 6 + 4, none⟩) hb).trans h4, (hW.cell (p := ⟨b, o + k * 6 + 5, none⟩) hb).trans h5⟩)
    clear hcl
    unfold ScX.v
    go_enter Tryz.func71, Tryz.ntmps71
    go_upto_region 1 with (fail)
    obtain ⟨w2, HW2⟩ : ∃ w2, w2 = (w.alloc (.cells #[.slice X.a1 X.n1 X.c1, .slice X.a2 X.n2 X.c2, .slice X.a3 X.n3 X.c3, .slice X.a4 X.n4 X.c4, .slice X.a5 X.n5 X.c5, .int .i64 X.self] 28)).alloc (.cells #[.string ⟨#[]⟩, .int .i64 0, .int .i64 0, .int .i64 0, .int .i64 0, .int .i64 0] 79) := ⟨_, rfl⟩
    have HB2 : Hid (Below w.heap.size w w2) := Lib.hid (by rw [HW2]; exact bthen (below_alloc1 _ _) (below_alloc1 _ _))
    have HVC : Hid (VC w2 w.heap.size b (o + k * 6) X x y) := Lib.hid ⟨by rw [HW2]; exact (Bx.new w X 28).below (below_alloc1 _ _), (HB2.out.cell (p := ⟨b, o + k * 6 + 1, none⟩) hb).trans h1, (HB2.out.cell (p := ⟨b, o + k * 6 + 2, none⟩) hb).trans h2, Nat.lt_of_lt_of_le hb HB2.out.size⟩
    have HRZ : Hid (RZ w2 (w.heap.size + 1)) := Lib.hid (by rw [HW2]; exact ⟨⟨World.cell?_alloc_at _ _ _ _ (by simp), World.cell?_alloc_at _ _ _ _ (by simp), World.cell?_alloc_at _ _ _ _ (by simp), World.cell?_alloc_at _ _ _ _ (by simp), World.cell?_alloc_at _ _ _ _ (by simp), World.cell?_alloc_at _ _ _ _ (by simp)⟩, by simp, fun i => World.frozen?_alloc_at _ _ _ _ (by simp)⟩)
    rw [← HW2]
    have HKEEP : Hid (Below w2.heap.size w2 w2) := Lib.hid (Below.refl _ _)
    clear HW2 h0 h1 h2 h3 h4 h5
    refine wp_region_held_drew (S := (fun w' => w'.cell? ⟨w.heap.size, 0, none⟩ = some (.slice X.a1 X.n1 X.c1) ∧ w'.cell? ⟨w.heap.size, 1, none⟩ = some (.slice X.a2 X.n2 X.c2) ∧ w'.cell? ⟨w.heap.size, 2, none⟩ = some (.slice X.a3 X.n3 X.c3) ∧ w'.cell? ⟨w.heap.size, 3, none⟩ = some (.slice X.a4 X.n4 X.c4) ∧ w'.cell? ⟨w.heap.size, 4, none⟩ = some (.slice X.a5 X.n5 X.c5) ∧ w'.cell? ⟨w.heap.size, 5, none⟩ = some (.int .i64 X.self) ∧ w'.cell? ⟨b, o + k * 6 + 1, none⟩ = some (.int .i64 x) ∧ w'.cell? ⟨b, o + k * 6 + 2, none⟩ = some (.int .i64 y))) (by kernel_rfl) (vc8 HVC.out) (fun hS0 => ?_)
    have HS0 := Lib.hid hS0
    clear hS0
    simp only [Array.replicate, List.replicate]
    refine wpAnyH_take (i := 0) (oi := ⟨some 8, _, _, _, _, _⟩) (v := .int .i64 (k : Int)) rfl (by kernel_rfl) (by kernel_rfl) (by kernel_rfl) (fun _ _ _ h => h) (Or.inl ⟨by kernel_rfl, fun w9 hS => ?_⟩) HS0.out ?_
    · clear hS
      go_simp
    try simp only [Act.put, List.setIfInBounds_toArray, List.set_cons_zero, List.set_cons_succ]
    refine wpAnyH_take (i := 1) (oi := ⟨some 9, _, _, _, _, _⟩) (v := .bool false) rfl (by kernel_rfl) (by kernel_rfl) (by kernel_rfl) (fun _ _ _ h => h) (Or.inl ⟨by kernel_rfl, fun w9 hS => ?_⟩) HS0.out ?_
    · clear hS
      go_simp
    try simp only [Act.put, List.setIfInBounds_toArray, List.set_cons_zero, List.set_cons_succ]
    refine wpAnyH_take (i := 2) (oi := ⟨some 10, _, _, _, _, _⟩) (v := .bool false) rfl (by kernel_rfl) (by kernel_rfl) (by kernel_rfl) (fun _ _ _ h => h) (Or.inl ⟨by kernel_rfl, fun w9 hS => ?_⟩) HS0.out ?_
    · clear hS
      go_simp
    try simp only [Act.put, List.setIfInBounds_toArray, List.set_cons_zero, List.set_cons_succ]
    refine wpAnyH_take (i := 3) (oi := ⟨some 11, _, _, _, _, _⟩) (v := .int .i64 (k : Int)) rfl (by kernel_rfl) (by kernel_rfl) (by kernel_rfl) (fun _ _ _ h => h) (Or.inl ⟨by kernel_rfl, fun w9 hS => ?_⟩) HS0.out ?_
    · clear hS
      go_simp
    try simp only [Act.put, List.setIfInBounds_toArray, List.set_cons_zero, List.set_cons_succ]
    refine wpAnyH_take (i := 4) (oi := ⟨some 12, _, _, _, _, _⟩) (v := .slice (some ⟨b, o, none⟩) m c) rfl (by kernel_rfl) (by kernel_rfl) (by kernel_rfl) (fun _ _ _ h => h) (Or.inl ⟨by kernel_rfl, fun w9 hS => ?_⟩) HS0.out ?_
    · clear hS
      go_simp
    try simp only [Act.put, List.setIfInBounds_toArray, List.set_cons_zero, List.set_cons_succ]
    refine wpAnyH_take (i := 5) (oi := ⟨some 13, _, _, _, _, _⟩) (v := .int .i64 (m : Int)) rfl (by kernel_rfl) (by kernel_rfl) (by kernel_rfl) (fun _ _ _ h => h) (Or.inl ⟨by kernel_rfl, fun w9 hS => ?_⟩) HS0.out ?_
    · clear hS
      go_simp
    try simp only [Act.put, List.setIfInBounds_toArray, List.set_cons_zero, List.set_cons_succ]
    refine wpAnyH_take (i := 6) (oi := ⟨some 14, _, _, _, _, _⟩) (v := .bool false) rfl (by kernel_rfl) (by kernel_rfl) (by kernel_rfl) (fun _ _ _ h => h) (Or.inl ⟨by kernel_rfl, fun w9 hS => ?_⟩) HS0.out ?_
    · clear hS
      go_simp
    try simp only [Act.put, List.setIfInBounds_toArray, List.set_cons_zero, List.set_cons_succ]
    refine wpAnyH_take (i := 7) (oi := ⟨some 15, _, _, _, _, _⟩) (v := .bool false) rfl (by kernel_rfl) (by kernel_rfl) (by kernel_rfl) (fun _ _ _ h => h) (Or.inl ⟨by kernel_rfl, fun w9 hS => ?_⟩) HS0.out ?_
    · clear hS
      go_simp
    try simp only [Act.put, List.setIfInBounds_toArray, List.set_cons_zero, List.set_cons_succ]
    refine wpAnyH_take (i := 8) (oi := ⟨some 16, _, _, _, _, _⟩) (v := .bool false) rfl (by kernel_rfl) (by kernel_rfl) (by kernel_rfl) (fun _ _ _ h => h) (Or.inl ⟨by kernel_rfl, fun w9 hS => ?_⟩) HS0.out ?_
    · clear hS
      go_simp
    try simp only [Act.put, List.setIfInBounds_toArray, List.set_cons_zero, List.set_cons_succ]
    refine wpAnyH_take (i := 9) (oi := ⟨some 17, _, _, _, _, _⟩) (v := .slice (some ⟨b, o, none⟩) m c) rfl (by kernel_rfl) (by kernel_rfl) (by kernel_rfl) (fun _ _ _ h => h) (Or.inl ⟨by kernel_rfl, fun w9 hS => ?_⟩) HS0.out ?_
    · clear hS
      go_simp
    try simp only [Act.put, List.setIfInBounds_toArray, List.set_cons_zero, List.set_cons_succ]
    refine wpAnyH_take (i := 10) (oi := ⟨some 18, _, _, _, _, _⟩) (v := .int .i64 (k : Int)) rfl (by kernel_rfl) (by kernel_rfl) (by kernel_rfl) (fun _ _ _ h => h) (Or.inl ⟨by kernel_rfl, fun w9 hS => ?_⟩) HS0.out ?_
    · clear hS
      go_simp
    try simp only [Act.put, List.setIfInBounds_toArray, List.set_cons_zero, List.set_cons_succ]
    refine wpAnyH_take (i := 11) (oi := ⟨some 19, _, _, _, _, _⟩) (v := .pointer (some ⟨b, o + k * 6, none⟩)) rfl (by kernel_rfl) (by kernel_rfl) (by kernel_rfl) (fun _ _ _ h => h) (Or.inl ⟨by kernel_rfl, fun w9 hS => ?_⟩) HS0.out ?_
    · clear hS
      go_simp
    try simp only [Act.put, List.setIfInBounds_toArray, List.set_cons_zero, List.set_cons_succ]
    refine wpAnyH_take (i := 12) (oi := ⟨some 20, _, _, _, _, _⟩) (v := .pointer (some ⟨b, o + k * 6 + 1, none⟩)) rfl (by kernel_rfl) (by kernel_rfl) (by kernel_rfl) (fun _ _ _ h => h) (Or.inl ⟨by kernel_rfl, fun w9 hS => ?_⟩) HS0.out ?_
    · clear hS
      go_simp
    try simp only [Act.put, List.setIfInBounds_toArray, List.set_cons_zero, List.set_cons_succ]
    refine wpAnyH_take (i := 13) (oi := ⟨some 21, _, _, _, _, _⟩) (v := .int .i64 x) rfl (by kernel_rfl) (by kernel_rfl) (by kernel_rfl) (fun _ _ _ h => h) (Or.inl ⟨by kernel_rfl, fun w9 hS => ?_⟩) HS0.out ?_
    · obtain ⟨s0, s1, s2, s3, s4, s5, s6, s7⟩ := hS
      go_simp
    try simp only [Act.put, List.setIfInBounds_toArray, List.set_cons_zero, List.set_cons_succ]
    refine wpAnyH_take (i := 14) (oi := ⟨some 22, _, _, _, _, _⟩) (v := .agg #[.slice X.a1 X.n1 X.c1, .slice X.a2 X.n2 X.c2, .slice X.a3 X.n3 X.c3, .slice X.a4 X.n4 X.c4, .slice X.a5 X.n5 X.c5, .int .i64 X.self]) rfl (by kernel_rfl) (by kernel_rfl) (by kernel_rfl) (fun _ _ _ h => h) (Or.inl ⟨by kernel_rfl, fun w9 hS => ?_⟩) HS0.out ?_
    · obtain ⟨s0, s1, s2, s3, s4, s5, s6, s7⟩ := hS
      go_simp
    try simp only [Act.put, List.setIfInBounds_toArray, List.set_cons_zero, List.set_cons_succ]
    refine wpAnyH_ready (rs := [15]) (by kernel_rfl) (by simp) ?_
    refine AllReadyH.cons (o := ⟨some 23, _, _, _, _, _⟩) rfl (fun K hK => ?_) AllReadyH.nil
    rw [if_pos (by kernel_rfl)]
    go_simp
    go_at_call 110
    refine (refScalar_any X x _).mono ?_
    rw [HSX.out]
    rintro e v3 ⟨rfl, hb3⟩
    have HKEEP : Hid (Below w2.heap.size w2 v3) := Lib.hid (by first | exact HKEEP.out.drew.trans (hb3.mono HKEEP.out.size) | exact HKEEP.out.trans (hb3.mono HKEEP.out.size))
    clear hb3
    have HS1 : Hid _ := Lib.hid (vc8 (HVC.out.below HKEEP.out))
    refine hK.out _ _ HS1.out (fun _ => ?_)
    clear hK K
    try simp only [Act.put, List.setIfInBounds_toArray, List.set_cons_zero, List.set_cons_succ]
    refine wpAnyH_take (i := 16) (oi := ⟨some 24, _, _, _, _, _⟩) (v := .bool false) rfl (by kernel_rfl) (by kernel_rfl) (by kernel_rfl) (fun _ _ _ h => h) (Or.inl ⟨by kernel_rfl, fun w9 hS => ?_⟩) HS1.out ?_
    · clear hS
      go_simp
    try simp only [Act.put, List.setIfInBounds_toArray, List.set_cons_zero, List.set_cons_succ]
    refine wpAnyH_take (i := 17) (oi := ⟨some 25, _, _, _, _, _⟩) (v := .bool false) rfl (by kernel_rfl) (by kernel_rfl) (by kernel_rfl) (fun _ _ _ h => h) (Or.inl ⟨by kernel_rfl, fun w9 hS => ?_⟩) HS1.out ?_
    · clear hS
      go_simp
    try simp only [Act.put, List.setIfInBounds_toArray, List.set_cons_zero, List.set_cons_succ]
    refine wpAnyH_take (i := 18) (oi := ⟨some 26, _, _, _, _, _⟩) (v := .bool false) rfl (by kernel_rfl) (by kernel_rfl) (by kernel_rfl) (fun _ _ _ h => h) (Or.inl ⟨by kernel_rfl, fun w9 hS => ?_⟩) HS1.out ?_
    · clear hS
      go_simp
    try simp only [Act.put, List.setIfInBounds_toArray, List.set_cons_zero, List.set_cons_succ]
    refine wpAnyH_take (i := 19) (oi := ⟨some 27, _, _, _, _, _⟩) (v := .slice (some ⟨b, o, none⟩) m c) rfl (by kernel_rfl) (by kernel_rfl) (by kernel_rfl) (fun _ _ _ h => h) (Or.inl ⟨by kernel_rfl, fun w9 hS => ?_⟩) HS1.out ?_
    · clear hS
      go_simp
    try simp only [Act.put, List.setIfInBounds_toArray, List.set_cons_zero, List.set_cons_succ]
    refine wpAnyH_take (i := 20) (oi := ⟨some 28, _, _, _, _, _⟩) (v := .int .i64 (k : Int)) rfl (by kernel_rfl) (by kernel_rfl) (by kernel_rfl) (fun _ _ _ h => h) (Or.inl ⟨by kernel_rfl, fun w9 hS => ?_⟩) HS1.out ?_
    · clear hS
      go_simp
    try simp only [Act.put, List.setIfInBounds_toArray, List.set_cons_zero, List.set_cons_succ]
    refine wpAnyH_take (i := 21) (oi := ⟨some 29, _, _, _, _, _⟩) (v := .pointer (some ⟨b, o + k * 6, none⟩)) rfl (by kernel_rfl) (by kernel_rfl) (by kernel_rfl) (fun _ _ _ h => h) (Or.inl ⟨by kernel_rfl, fun w9 hS => ?_⟩) HS1.out ?_
    · clear hS
      go_simp
    try simp only [Act.put, List.setIfInBounds_toArray, List.set_cons_zero, List.set_cons_succ]
    refine wpAnyH_take (i := 22) (oi := ⟨some 30, _, _, _, _, _⟩) (v := .pointer (some ⟨b, o + k * 6 + 2, none⟩)) rfl (by kernel_rfl) (by kernel_rfl) (by kernel_rfl) (fun _ _ _ h => h) (Or.inl ⟨by kernel_rfl, fun w9 hS => ?_⟩) HS1.out ?_
    · clear hS
      go_simp
    try simp only [Act.put, List.setIfInBounds_toArray, List.set_cons_zero, List.set_cons_succ]
    refine wpAnyH_take (i := 23) (oi := ⟨some 31, _, _, _, _, _⟩) (v := .int .i64 y) rfl (by kernel_rfl) (by kernel_rfl) (by kernel_rfl) (fun _ _ _ h => h) (Or.inl ⟨by kernel_rfl, fun w9 hS => ?_⟩) HS1.out ?_
    · obtain ⟨s0, s1, s2, s3, s4, s5, s6, s7⟩ := hS
      go_simp
    try simp only [Act.put, List.setIfInBounds_toArray, List.set_cons_zero, List.set_cons_succ]
    refine wpAnyH_take (i := 24) (oi := ⟨some 32, _, _, _, _, _⟩) (v := .agg #[.slice X.a1 X.n1 X.c1, .slice X.a2 X.n2 X.c2, .slice X.a3 X.n3 X.c3, .slice X.a4 X.n4 X.c4, .slice X.a5 X.n5 X.c5, .int .i64 X.self]) rfl (by kernel_rfl) (by kernel_rfl) (by kernel_rfl) (fun _ _ _ h => h) (Or.inl ⟨by kernel_rfl, fun w9 hS => ?_⟩) HS1.out ?_
    · obtain ⟨s0, s1, s2, s3, s4, s5, s6, s7⟩ := hS
      go_simp
    try simp only [Act.put, List.setIfInBounds_toArray, List.set_cons_zero, List.set_cons_succ]
    refine wpAnyH_ready (rs := [25]) (by kernel_rfl) (by simp) ?_
    refine AllReadyH.cons (o := ⟨some 33, _, _, _, _, _⟩) rfl (fun K hK => ?_) AllReadyH.nil
    rw [if_pos (by kernel_rfl)]
    go_simp
    go_at_call 110
    refine (refScalar_any X y _).mono ?_
    rw [HSY.out]
    rintro e v3 ⟨rfl, hb3⟩
    have HKEEP : Hid (Below w2.heap.size w2 v3) := Lib.hid (by first | exact HKEEP.out.drew.trans (hb3.mono HKEEP.out.size) | exact HKEEP.out.trans (hb3.mono HKEEP.out.size))
    clear hb3
    have HS2 : Hid _ := Lib.hid (vc8 (HVC.out.below HKEEP.out))
    refine hK.out _ _ HS2.out (fun _ => ?_)
    clear hK K
    try simp only [Act.put, List.setIfInBounds_toArray, List.set_cons_zero, List.set_cons_succ]
    refine wpAnyH_take (i := 26) (oi := ⟨some 34, _, _, _, _, _⟩) (v := .bool true) rfl (by kernel_rfl) (by kernel_rfl) (by kernel_rfl) (fun _ _ _ h => h) (Or.inl ⟨by kernel_rfl, fun w9 hS => ?_⟩) HS2.out ?_
    · clear hS
      go_simp
    try simp only [Act.put, List.setIfInBounds_toArray, List.set_cons_zero, List.set_cons_succ]
    refine wpAnyH_take (i := 27) (oi := ⟨some 35, _, _, _, _, _⟩) (v := .bool true) rfl (by kernel_rfl) (by kernel_rfl) (by kernel_rfl) (fun _ _ _ h => h) (Or.inl ⟨by kernel_rfl, fun w9 hS => ?_⟩) HS2.out ?_
    · clear hS
      go_simp
    try simp only [Act.put, List.setIfInBounds_toArray, List.set_cons_zero, List.set_cons_succ]
    refine wpAnyH_done (by kernel_rfl) ?_ _
    have HFIN : Hid (Below w.heap.size w v3) := Lib.hid (bthen HB2.out HKEEP.out)
    have HZZ := Lib.hid (HRZ.out.below HKEEP.out)
    have z0 := HZZ.out.1.1
    have z1 := HZZ.out.1.2.1
    have z2 := HZZ.out.1.2.2.1
    have z3 := HZZ.out.1.2.2.2.1
    have z4 := HZZ.out.1.2.2.2.2.1
    have z5 := HZZ.out.1.2.2.2.2.2
    have f0 := HZZ.out.2.2 0
    have f1 := HZZ.out.2.2 1
    have f2 := HZZ.out.2.2 2
    have f3 := HZZ.out.2.2 3
    have f4 := HZZ.out.2.2 4
    have f5 := HZZ.out.2.2 5
    go_wp2
    (try simp only [Exit.inBlock, Exit.then])
    refine bodyPost_ret (v := .tuple #[.agg #[.string ⟨#[]⟩, .int .i64 0, .int .i64 0, .int .i64 0, .int .i64 0, .int .i64 0], .bool false]) ?_ rfl ⟨rfl, ?_⟩
    · rw [results_cell_tmp rfl]; go_simp
    · exact below6 HFIN.out (w.heap.size + 1) (Nat.le_succ _) _ _ _ _ _ _

set_option maxRecDepth 20000 in
set_option maxHeartbeats 4000000 in
theorem refVariable_yes (X : ScX) (A : Option Addr) (m c k : Nat) (l : List (Int × Int)) (x y : Int) (w : World) (hm : m = l.length) (hA : VA w A l) (hk : k < l.length) (HL : Hid (l.getD k (0, 0) = (x, y))) (HSX : Hid (scB X.n1 x = true)) (HSY : Hid (scB X.n1 y = true)) :
    Calls Tryz.prog 71 #[.slice A m c, .int .i64 k, X.v] w fun e w' => (∃ (s : ByteArray) (p q r : Int), e = .returned (.tuple #[.agg #[.string s, .int .i64 x, .int .i64 y, .int .i64 p, .int .i64 q, .int .i64 r], .bool true])) ∧ Below w.heap.size w w' := by
    have HA := Lib.hid hA
    have hkm : k < m := by omega
    have HNK := Lib.hid hk
    clear hm hk hA
    have hd : decide ((k : Int) < 0) = false := decide_eq_false (by omega)
    have hd2 : decide (m ≤ k) = false := decide_eq_false (by omega)
    obtain ⟨b, o, rfl, hb, hcl⟩ := HA.out (by have := HNK.out; omega)
    obtain ⟨s0, p, q, r, h0, h1, h2, h3, h4, h5⟩ := hcl k HNK.out
    rw [HL.out] at h1 h2
    simp only at h1 h2
    have HV6 : Hid (∀ W, Below w.heap.size w W → W.cell? ⟨b, o + k * 6, none⟩ = some (.string s0) ∧ W.cell? ⟨b, o + k * 6 + 1, none⟩ = some (.int .i64 x) ∧ W.cell? ⟨b, o + k * 6 + 2, none⟩ = some (.int .i64 y) ∧ W.cell? ⟨b, o + k * 6 + 3, none⟩ = some (.int .i64 p) ∧ W.cell? ⟨b, o + k * 6 + 4, none⟩ = some (.int .i64 q) ∧ W.cell? ⟨b, o + k * 6 + 5, none⟩ = some (.int .i64 r)) := Lib.hid (fun W hW =>
      ⟨(hW.cell (p := ⟨b, o + k * 6, none⟩) hb).trans h0, (hW.cell (p := ⟨b, o + k * 6 + 1, none⟩) hb).trans h1, (hW.cell (p := ⟨b, o + k * 6 + 2, none⟩) hb).trans h2, (hW.cell (p := ⟨b, o + k * 6 + 3, none⟩) hb).trans h3, (hW.cell (p := ⟨b, o + k * 6 + 4, none⟩) hb).trans h4, (hW.cell (p := ⟨b, o + k * 6 + 5, none⟩) hb).trans h5⟩)
    clear hcl
    unfold ScX.v
    go_enter Tryz.func71, Tryz.ntmps71
    go_upto_region 1 with (fail)
    obtain ⟨w2, HW2⟩ : ∃ w2, w2 = (w.alloc (.cells #[.slice X.a1 X.n1 X.c1, .slice X.a2 X.n2 X.c2, .slice X.a3 X.n3 X.c3, .slice X.a4 X.n4 X.c4, .slice X.a5 X.n5 X.c5, .int .i64 X.self] 28)).alloc (.cells #[.string ⟨#[]⟩, .int .i64 0, .int .i64 0, .int .i64 0, .int .i64 0, .int .i64 0] 79) := ⟨_, rfl⟩
    have HB2 : Hid (Below w.heap.size w w2) := Lib.hid (by rw [HW2]; exact bthen (below_alloc1 _ _) (below_alloc1 _ _))
    have HVC : Hid (VC w2 w.heap.size b (o + k * 6) X x y) := Lib.hid ⟨by rw [HW2]; exact (Bx.new w X 28).below (below_alloc1 _ _), (HB2.out.cell (p := ⟨b, o + k * 6 + 1, none⟩) hb).trans h1, (HB2.out.cell (p := ⟨b, o + k * 6 + 2, none⟩) hb).trans h2, Nat.lt_of_lt_of_le hb HB2.out.size⟩
    have HRZ : Hid (RZ w2 (w.heap.size + 1)) := Lib.hid (by rw [HW2]; exact ⟨⟨World.cell?_alloc_at _ _ _ _ (by simp), World.cell?_alloc_at _ _ _ _ (by simp), World.cell?_alloc_at _ _ _ _ (by simp), World.cell?_alloc_at _ _ _ _ (by simp), World.cell?_alloc_at _ _ _ _ (by simp), World.cell?_alloc_at _ _ _ _ (by simp)⟩, by simp, fun i => World.frozen?_alloc_at _ _ _ _ (by simp)⟩)
    rw [← HW2]
    have HKEEP : Hid (Below w2.heap.size w2 w2) := Lib.hid (Below.refl _ _)
    clear HW2 h0 h1 h2 h3 h4 h5
    refine wp_region_held_drew (S := (fun w' => w'.cell? ⟨w.heap.size, 0, none⟩ = some (.slice X.a1 X.n1 X.c1) ∧ w'.cell? ⟨w.heap.size, 1, none⟩ = some (.slice X.a2 X.n2 X.c2) ∧ w'.cell? ⟨w.heap.size, 2, none⟩ = some (.slice X.a3 X.n3 X.c3) ∧ w'.cell? ⟨w.heap.size, 3, none⟩ = some (.slice X.a4 X.n4 X.c4) ∧ w'.cell? ⟨w.heap.size, 4, none⟩ = some (.slice X.a5 X.n5 X.c5) ∧ w'.cell? ⟨w.heap.size, 5, none⟩ = some (.int .i64 X.self) ∧ w'.cell? ⟨b, o + k * 6 + 1, none⟩ = some (.int .i64 x) ∧ w'.cell? ⟨b, o + k * 6 + 2, none⟩ = some (.int .i64 y))) (by kernel_rfl) (vc8 HVC.out) (fun hS0 => ?_)
    have HS0 := Lib.hid hS0
    clear hS0
    simp only [Array.replicate, List.replicate]
    refine wpAnyH_take (i := 0) (oi := ⟨some 8, _, _, _, _, _⟩) (v := .int .i64 (k : Int)) rfl (by kernel_rfl) (by kernel_rfl) (by kernel_rfl) (fun _ _ _ h => h) (Or.inl ⟨by kernel_rfl, fun w9 hS => ?_⟩) HS0.out ?_
    · clear hS
      go_simp
    try simp only [Act.put, List.setIfInBounds_toArray, List.set_cons_zero, List.set_cons_succ]
    refine wpAnyH_take (i := 1) (oi := ⟨some 9, _, _, _, _, _⟩) (v := .bool false) rfl (by kernel_rfl) (by kernel_rfl) (by kernel_rfl) (fun _ _ _ h => h) (Or.inl ⟨by kernel_rfl, fun w9 hS => ?_⟩) HS0.out ?_
    · clear hS
      go_simp
    try simp only [Act.put, List.setIfInBounds_toArray, List.set_cons_zero, List.set_cons_succ]
    refine wpAnyH_take (i := 2) (oi := ⟨some 10, _, _, _, _, _⟩) (v := .bool false) rfl (by kernel_rfl) (by kernel_rfl) (by kernel_rfl) (fun _ _ _ h => h) (Or.inl ⟨by kernel_rfl, fun w9 hS => ?_⟩) HS0.out ?_
    · clear hS
      go_simp
    try simp only [Act.put, List.setIfInBounds_toArray, List.set_cons_zero, List.set_cons_succ]
    refine wpAnyH_take (i := 3) (oi := ⟨some 11, _, _, _, _, _⟩) (v := .int .i64 (k : Int)) rfl (by kernel_rfl) (by kernel_rfl) (by kernel_rfl) (fun _ _ _ h => h) (Or.inl ⟨by kernel_rfl, fun w9 hS => ?_⟩) HS0.out ?_
    · clear hS
      go_simp
    try simp only [Act.put, List.setIfInBounds_toArray, List.set_cons_zero, List.set_cons_succ]
    refine wpAnyH_take (i := 4) (oi := ⟨some 12, _, _, _, _, _⟩) (v := .slice (some ⟨b, o, none⟩) m c) rfl (by kernel_rfl) (by kernel_rfl) (by kernel_rfl) (fun _ _ _ h => h) (Or.inl ⟨by kernel_rfl, fun w9 hS => ?_⟩) HS0.out ?_
    · clear hS
      go_simp
    try simp only [Act.put, List.setIfInBounds_toArray, List.set_cons_zero, List.set_cons_succ]
    refine wpAnyH_take (i := 5) (oi := ⟨some 13, _, _, _, _, _⟩) (v := .int .i64 (m : Int)) rfl (by kernel_rfl) (by kernel_rfl) (by kernel_rfl) (fun _ _ _ h => h) (Or.inl ⟨by kernel_rfl, fun w9 hS => ?_⟩) HS0.out ?_
    · clear hS
      go_simp
    try simp only [Act.put, List.setIfInBounds_toArray, List.set_cons_zero, List.set_cons_succ]
    refine wpAnyH_take (i := 6) (oi := ⟨some 14, _, _, _, _, _⟩) (v := .bool false) rfl (by kernel_rfl) (by kernel_rfl) (by kernel_rfl) (fun _ _ _ h => h) (Or.inl ⟨by kernel_rfl, fun w9 hS => ?_⟩) HS0.out ?_
    · clear hS
      go_simp
    try simp only [Act.put, List.setIfInBounds_toArray, List.set_cons_zero, List.set_cons_succ]
    refine wpAnyH_take (i := 7) (oi := ⟨some 15, _, _, _, _, _⟩) (v := .bool false) rfl (by kernel_rfl) (by kernel_rfl) (by kernel_rfl) (fun _ _ _ h => h) (Or.inl ⟨by kernel_rfl, fun w9 hS => ?_⟩) HS0.out ?_
    · clear hS
      go_simp
    try simp only [Act.put, List.setIfInBounds_toArray, List.set_cons_zero, List.set_cons_succ]
    refine wpAnyH_take (i := 8) (oi := ⟨some 16, _, _, _, _, _⟩) (v := .bool false) rfl (by kernel_rfl) (by kernel_rfl) (by kernel_rfl) (fun _ _ _ h => h) (Or.inl ⟨by kernel_rfl, fun w9 hS => ?_⟩) HS0.out ?_
    · clear hS
      go_simp
    try simp only [Act.put, List.setIfInBounds_toArray, List.set_cons_zero, List.set_cons_succ]
    refine wpAnyH_take (i := 9) (oi := ⟨some 17, _, _, _, _, _⟩) (v := .slice (some ⟨b, o, none⟩) m c) rfl (by kernel_rfl) (by kernel_rfl) (by kernel_rfl) (fun _ _ _ h => h) (Or.inl ⟨by kernel_rfl, fun w9 hS => ?_⟩) HS0.out ?_
    · clear hS
      go_simp
    try simp only [Act.put, List.setIfInBounds_toArray, List.set_cons_zero, List.set_cons_succ]
    refine wpAnyH_take (i := 10) (oi := ⟨some 18, _, _, _, _, _⟩) (v := .int .i64 (k : Int)) rfl (by kernel_rfl) (by kernel_rfl) (by kernel_rfl) (fun _ _ _ h => h) (Or.inl ⟨by kernel_rfl, fun w9 hS => ?_⟩) HS0.out ?_
    · clear hS
      go_simp
    try simp only [Act.put, List.setIfInBounds_toArray, List.set_cons_zero, List.set_cons_succ]
    refine wpAnyH_take (i := 11) (oi := ⟨some 19, _, _, _, _, _⟩) (v := .pointer (some ⟨b, o + k * 6, none⟩)) rfl (by kernel_rfl) (by kernel_rfl) (by kernel_rfl) (fun _ _ _ h => h) (Or.inl ⟨by kernel_rfl, fun w9 hS => ?_⟩) HS0.out ?_
    · clear hS
      go_simp
    try simp only [Act.put, List.setIfInBounds_toArray, List.set_cons_zero, List.set_cons_succ]
    refine wpAnyH_take (i := 12) (oi := ⟨some 20, _, _, _, _, _⟩) (v := .pointer (some ⟨b, o + k * 6 + 1, none⟩)) rfl (by kernel_rfl) (by kernel_rfl) (by kernel_rfl) (fun _ _ _ h => h) (Or.inl ⟨by kernel_rfl, fun w9 hS => ?_⟩) HS0.out ?_
    · clear hS
      go_simp
    try simp only [Act.put, List.setIfInBounds_toArray, List.set_cons_zero, List.set_cons_succ]
    refine wpAnyH_take (i := 13) (oi := ⟨some 21, _, _, _, _, _⟩) (v := .int .i64 x) rfl (by kernel_rfl) (by kernel_rfl) (by kernel_rfl) (fun _ _ _ h => h) (Or.inl ⟨by kernel_rfl, fun w9 hS => ?_⟩) HS0.out ?_
    · obtain ⟨s0, s1, s2, s3, s4, s5, s6, s7⟩ := hS
      go_simp
    try simp only [Act.put, List.setIfInBounds_toArray, List.set_cons_zero, List.set_cons_succ]
    refine wpAnyH_take (i := 14) (oi := ⟨some 22, _, _, _, _, _⟩) (v := .agg #[.slice X.a1 X.n1 X.c1, .slice X.a2 X.n2 X.c2, .slice X.a3 X.n3 X.c3, .slice X.a4 X.n4 X.c4, .slice X.a5 X.n5 X.c5, .int .i64 X.self]) rfl (by kernel_rfl) (by kernel_rfl) (by kernel_rfl) (fun _ _ _ h => h) (Or.inl ⟨by kernel_rfl, fun w9 hS => ?_⟩) HS0.out ?_
    · obtain ⟨s0, s1, s2, s3, s4, s5, s6, s7⟩ := hS
      go_simp
    try simp only [Act.put, List.setIfInBounds_toArray, List.set_cons_zero, List.set_cons_succ]
    refine wpAnyH_ready (rs := [15]) (by kernel_rfl) (by simp) ?_
    refine AllReadyH.cons (o := ⟨some 23, _, _, _, _, _⟩) rfl (fun K hK => ?_) AllReadyH.nil
    rw [if_pos (by kernel_rfl)]
    go_simp
    go_at_call 110
    refine (refScalar_any X x _).mono ?_
    rw [HSX.out]
    rintro e v3 ⟨rfl, hb3⟩
    have HKEEP : Hid (Below w2.heap.size w2 v3) := Lib.hid (by first | exact HKEEP.out.drew.trans (hb3.mono HKEEP.out.size) | exact HKEEP.out.trans (hb3.mono HKEEP.out.size))
    clear hb3
    have HS1 : Hid _ := Lib.hid (vc8 (HVC.out.below HKEEP.out))
    refine hK.out _ _ HS1.out (fun _ => ?_)
    clear hK K
    try simp only [Act.put, List.setIfInBounds_toArray, List.set_cons_zero, List.set_cons_succ]
    refine wpAnyH_take (i := 16) (oi := ⟨some 24, _, _, _, _, _⟩) (v := .bool false) rfl (by kernel_rfl) (by kernel_rfl) (by kernel_rfl) (fun _ _ _ h => h) (Or.inl ⟨by kernel_rfl, fun w9 hS => ?_⟩) HS1.out ?_
    · clear hS
      go_simp
    try simp only [Act.put, List.setIfInBounds_toArray, List.set_cons_zero, List.set_cons_succ]
    refine wpAnyH_take (i := 17) (oi := ⟨some 25, _, _, _, _, _⟩) (v := .bool false) rfl (by kernel_rfl) (by kernel_rfl) (by kernel_rfl) (fun _ _ _ h => h) (Or.inl ⟨by kernel_rfl, fun w9 hS => ?_⟩) HS1.out ?_
    · clear hS
      go_simp
    try simp only [Act.put, List.setIfInBounds_toArray, List.set_cons_zero, List.set_cons_succ]
    refine wpAnyH_take (i := 18) (oi := ⟨some 26, _, _, _, _, _⟩) (v := .bool false) rfl (by kernel_rfl) (by kernel_rfl) (by kernel_rfl) (fun _ _ _ h => h) (Or.inl ⟨by kernel_rfl, fun w9 hS => ?_⟩) HS1.out ?_
    · clear hS
      go_simp
    try simp only [Act.put, List.setIfInBounds_toArray, List.set_cons_zero, List.set_cons_succ]
    refine wpAnyH_take (i := 19) (oi := ⟨some 27, _, _, _, _, _⟩) (v := .slice (some ⟨b, o, none⟩) m c) rfl (by kernel_rfl) (by kernel_rfl) (by kernel_rfl) (fun _ _ _ h => h) (Or.inl ⟨by kernel_rfl, fun w9 hS => ?_⟩) HS1.out ?_
    · clear hS
      go_simp
    try simp only [Act.put, List.setIfInBounds_toArray, List.set_cons_zero, List.set_cons_succ]
    refine wpAnyH_take (i := 20) (oi := ⟨some 28, _, _, _, _, _⟩) (v := .int .i64 (k : Int)) rfl (by kernel_rfl) (by kernel_rfl) (by kernel_rfl) (fun _ _ _ h => h) (Or.inl ⟨by kernel_rfl, fun w9 hS => ?_⟩) HS1.out ?_
    · clear hS
      go_simp
    try simp only [Act.put, List.setIfInBounds_toArray, List.set_cons_zero, List.set_cons_succ]
    refine wpAnyH_take (i := 21) (oi := ⟨some 29, _, _, _, _, _⟩) (v := .pointer (some ⟨b, o + k * 6, none⟩)) rfl (by kernel_rfl) (by kernel_rfl) (by kernel_rfl) (fun _ _ _ h => h) (Or.inl ⟨by kernel_rfl, fun w9 hS => ?_⟩) HS1.out ?_
    · clear hS
      go_simp
    try simp only [Act.put, List.setIfInBounds_toArray, List.set_cons_zero, List.set_cons_succ]
    refine wpAnyH_take (i := 22) (oi := ⟨some 30, _, _, _, _, _⟩) (v := .pointer (some ⟨b, o + k * 6 + 2, none⟩)) rfl (by kernel_rfl) (by kernel_rfl) (by kernel_rfl) (fun _ _ _ h => h) (Or.inl ⟨by kernel_rfl, fun w9 hS => ?_⟩) HS1.out ?_
    · clear hS
      go_simp
    try simp only [Act.put, List.setIfInBounds_toArray, List.set_cons_zero, List.set_cons_succ]
    refine wpAnyH_take (i := 23) (oi := ⟨some 31, _, _, _, _, _⟩) (v := .int .i64 y) rfl (by kernel_rfl) (by kernel_rfl) (by kernel_rfl) (fun _ _ _ h => h) (Or.inl ⟨by kernel_rfl, fun w9 hS => ?_⟩) HS1.out ?_
    · obtain ⟨s0, s1, s2, s3, s4, s5, s6, s7⟩ := hS
      go_simp
    try simp only [Act.put, List.setIfInBounds_toArray, List.set_cons_zero, List.set_cons_succ]
    refine wpAnyH_take (i := 24) (oi := ⟨some 32, _, _, _, _, _⟩) (v := .agg #[.slice X.a1 X.n1 X.c1, .slice X.a2 X.n2 X.c2, .slice X.a3 X.n3 X.c3, .slice X.a4 X.n4 X.c4, .slice X.a5 X.n5 X.c5, .int .i64 X.self]) rfl (by kernel_rfl) (by kernel_rfl) (by kernel_rfl) (fun _ _ _ h => h) (Or.inl ⟨by kernel_rfl, fun w9 hS => ?_⟩) HS1.out ?_
    · obtain ⟨s0, s1, s2, s3, s4, s5, s6, s7⟩ := hS
      go_simp
    try simp only [Act.put, List.setIfInBounds_toArray, List.set_cons_zero, List.set_cons_succ]
    refine wpAnyH_ready (rs := [25]) (by kernel_rfl) (by simp) ?_
    refine AllReadyH.cons (o := ⟨some 33, _, _, _, _, _⟩) rfl (fun K hK => ?_) AllReadyH.nil
    rw [if_pos (by kernel_rfl)]
    go_simp
    go_at_call 110
    refine (refScalar_any X y _).mono ?_
    rw [HSY.out]
    rintro e v3 ⟨rfl, hb3⟩
    have HKEEP : Hid (Below w2.heap.size w2 v3) := Lib.hid (by first | exact HKEEP.out.drew.trans (hb3.mono HKEEP.out.size) | exact HKEEP.out.trans (hb3.mono HKEEP.out.size))
    clear hb3
    have HS2 : Hid _ := Lib.hid (vc8 (HVC.out.below HKEEP.out))
    refine hK.out _ _ HS2.out (fun _ => ?_)
    clear hK K
    try simp only [Act.put, List.setIfInBounds_toArray, List.set_cons_zero, List.set_cons_succ]
    refine wpAnyH_take (i := 26) (oi := ⟨some 34, _, _, _, _, _⟩) (v := .bool false) rfl (by kernel_rfl) (by kernel_rfl) (by kernel_rfl) (fun _ _ _ h => h) (Or.inl ⟨by kernel_rfl, fun w9 hS => ?_⟩) HS2.out ?_
    · clear hS
      go_simp
    try simp only [Act.put, List.setIfInBounds_toArray, List.set_cons_zero, List.set_cons_succ]
    refine wpAnyH_take (i := 27) (oi := ⟨some 35, _, _, _, _, _⟩) (v := .bool false) rfl (by kernel_rfl) (by kernel_rfl) (by kernel_rfl) (fun _ _ _ h => h) (Or.inl ⟨by kernel_rfl, fun w9 hS => ?_⟩) HS2.out ?_
    · clear hS
      go_simp
    try simp only [Act.put, List.setIfInBounds_toArray, List.set_cons_zero, List.set_cons_succ]
    refine wpAnyH_done (by kernel_rfl) ?_ _
    have HFIN : Hid (Below w.heap.size w v3) := Lib.hid (bthen HB2.out HKEEP.out)
    have HZZ := Lib.hid (HRZ.out.below HKEEP.out)
    have z0 := HZZ.out.1.1
    have z1 := HZZ.out.1.2.1
    have z2 := HZZ.out.1.2.2.1
    have z3 := HZZ.out.1.2.2.2.1
    have z4 := HZZ.out.1.2.2.2.2.1
    have z5 := HZZ.out.1.2.2.2.2.2
    have f0 := HZZ.out.2.2 0
    have f1 := HZZ.out.2.2 1
    have f2 := HZZ.out.2.2 2
    have f3 := HZZ.out.2.2 3
    have f4 := HZZ.out.2.2 4
    have f5 := HZZ.out.2.2 5
    obtain ⟨y0, y1, y2, y3, y4, y5⟩ := HV6.out v3 HFIN.out
    go_wp2
    (try simp only [Exit.inBlock, Exit.then])
    refine bodyPost_ret (v := .tuple #[.agg #[.string s0, .int .i64 x, .int .i64 y, .int .i64 p, .int .i64 q, .int .i64 r], .bool true]) ?_ rfl ⟨⟨s0, p, q, r, rfl⟩, ?_⟩
    · rw [results_cell_tmp rfl]; go_simp
    · exact below6 HFIN.out (w.heap.size + 1) (Nat.le_succ _) _ _ _ _ _ _

theorem scB_yes {n : Nat} {z : Int} (h1 : 0 ≤ z) (h2 : z ≤ n) : Hid (scB n z = true) := Lib.hid (decide_eq_true ⟨h1, h2⟩)
theorem scB_no {n : Nat} {z : Int} (h : z < 0 ∨ (n : Int) < z) : Hid (scB n z = false) := Lib.hid (decide_eq_false (by omega))
theorem refVariable_no (X : ScX) (A : Option Addr) (m c : Nat) (l : List (Int × Int)) (n : Int) (w : World) (hm : m = l.length) (hA : VA w A l) (h : varK X.n1 l n = none) :
    Calls Tryz.prog 71 #[.slice A m c, .int .i64 n, X.v] w fun e w' => e = .returned (.tuple #[.agg #[.string ⟨#[]⟩, .int .i64 0, .int .i64 0, .int .i64 0, .int .i64 0, .int .i64 0], .bool false]) ∧ Below w.heap.size w w' := by
  rcases varK_none h with hc | ⟨k, rfl, hk, hc⟩
  · exact refVariable_out X A m c n w (by omega)
  · rcases hc with hc | ⟨h1, h2, hc⟩
    · exact refVariable_bad1 X A m c k l _ _ w hm hA hk (Lib.hid rfl) (scB_no hc)
    · exact refVariable_bad2 X A m c k l _ _ w hm hA hk (Lib.hid rfl) (scB_yes h1 h2) (scB_no hc)
theorem refVariable_some (X : ScX) (A : Option Addr) (m c : Nat) (l : List (Int × Int)) (n x y : Int) (w : World) (hm : m = l.length) (hA : VA w A l) (h : varK X.n1 l n = some (x, y)) :
    Calls Tryz.prog 71 #[.slice A m c, .int .i64 n, X.v] w fun e w' => (∃ (s : ByteArray) (p q r : Int), e = .returned (.tuple #[.agg #[.string s, .int .i64 x, .int .i64 y, .int .i64 p, .int .i64 q, .int .i64 r], .bool true])) ∧ Below w.heap.size w w' := by
  obtain ⟨k, rfl, hk, hl, x1, x2, y1, y2⟩ := varK_some h
  exact refVariable_yes X A m c k l x y w hm hA hk (Lib.hid hl) (scB_yes x1 x2) (scB_yes y1 y2)
end Go.Proofs.YtmnigdphikoljaaGreatDoor
