/- The program's kind of an item. -/
import Derived.Test.YtgbnafakaaooiaaExprNode
namespace Go.Proofs.Ytgbnafakaaooiaa
open Go.ChangeShapes Go.WideShapes Go.ChangeAt Go.RowKit

set_option maxRecDepth 20000 in
set_option maxHeartbeats 4000000 in
theorem kind_item (X : ScX) (S : Sc) (n t p1 p2 : Int) (fv : Value) (A : Option Addr) (c m : Nat) (ps : List Int) (w : World) (h : SR w X S) (hm : m = ps.length) (hA : IA w A ps) (h1 : 0 < m) (hf : fv = .nilFunc) :
    Calls Try.prog 17 #[X.v, .agg #[.int .i64 3, .int .i64 n], .agg #[.int .i64 t, .int .i64 p1, .int .i64 p2, fv], .slice A m c] w (PairP w (nodeK S (3, n) ps)) := by
  subst hf
  have HS := Lib.hid h
  obtain ⟨ba, oa, rfl, hba, hca⟩ := hA (by omega)
  have hc0 := hca 0 (by omega)
  rw [Nat.add_zero] at hc0
  obtain ⟨ix, HIX⟩ : ∃ ix, Hid (ps.getD 0 0 = ix) := ⟨_, Lib.hid rfl⟩
  rw [HIX.out] at hc0
  obtain ⟨a, b, HE⟩ : ∃ a b, Hid (itemK X.n1 S.vars n ix = (a, b)) := ⟨_, _, Lib.hid rfl⟩
  have HP : Hid (nodeK S (3, n) ps = (a, b)) := Lib.hid (by unfold nodeK; rw [← HS.out.l1, HIX.out]; exact HE.out)
  rw [HP.out]
  have HC0 := Lib.hid hc0
  clear h hca hc0 hA
  clear hm
  unfold ScX.v
  go_enter Try.func17, Try.ntmps17
  go_wp2_with fail
  obtain ⟨w3, HW3, HX3, HN3, HB3, hz1, hz2⟩ : ∃ w3, w3 = ((w.alloc (.cells #[.slice X.a1 X.n1 X.c1, .slice X.a2 X.n2 X.c2, .slice X.a3 X.n3 X.c3, .slice X.a4 X.n4 X.c4, .slice X.a5 X.n5 X.c5, .int .i64 X.self] 50)).alloc (.cells #[.int .i64 3, .int .i64 n] 28)).alloc (.cells #[.int .i64 t, .int .i64 p1, .int .i64 p2, .nilFunc] 59) ∧
      Bx w3 w.heap.size X ∧ w3.cell? ⟨w.heap.size + 1, 1, none⟩ = some (.int .i64 n) ∧ Below w.heap.size w w3 ∧ w.heap.size < w3.heap.size ∧ w.heap.size + 1 < w3.heap.size :=
    ⟨_, rfl, ((Bx.new w X _).below (below_alloc1 _ _)).below (below_alloc1 _ _), (World.cell?_alloc_past _ _ _ (by simp)).trans (World.cell?_alloc_at _ _ _ _ (by simp)), bthen (bthen (below_alloc1 _ _) (below_alloc1 _ _)) (below_alloc1 _ _), by simp; omega, by simp⟩
  rw [← HW3]
  clear HW3
  have HB3' := Lib.hid HB3
  have hc0 : w3.cell? ⟨ba, oa, none⟩ = some (.int .i64 ix) := (HB3.cell (p := ⟨ba, oa, none⟩) hba).trans HC0.out
  have hbz : ba < w3.heap.size := Nat.lt_of_lt_of_le hba HB3.size
  obtain ⟨⟨x0, x1, x2, x3, x4, x5⟩, _⟩ := HX3
  clear HB3
  have HCALL := Lib.hid (item_any X S.vars n ix w3.drew HS.out.small HS.out.l2 (HS.out.r2.below HB3'.out.drew))
  generalize hbx : w.heap.size = bx at *
  have HBX := Lib.hid hbx
  clear hbx
  go_region_held3 (fun w' => w'.cell? ⟨bx, 0, none⟩ = some (.slice X.a1 X.n1 X.c1) ∧ w'.cell? ⟨bx, 1, none⟩ = some (.slice X.a2 X.n2 X.c2) ∧ w'.cell? ⟨bx, 2, none⟩ = some (.slice X.a3 X.n3 X.c3) ∧ w'.cell? ⟨bx, 3, none⟩ = some (.slice X.a4 X.n4 X.c4) ∧
      w'.cell? ⟨bx, 4, none⟩ = some (.slice X.a5 X.n5 X.c5) ∧ w'.cell? ⟨bx, 5, none⟩ = some (.int .i64 X.self) ∧ w'.cell? ⟨bx + 1, 1, none⟩ = some (.int .i64 n) ∧ w'.cell? ⟨ba, oa, none⟩ = some (.int .i64 ix))
    (first | exact ⟨x0, x1, x2, x3, x4, x5, HN3, hc0⟩ | exact ⟨g0, g1, g2, g3, g4, g5, g6, g7⟩ | go_keep)
    ((go_at_call 26; refine HCALL.out.mono ?_; rintro e w4 ⟨rfl, hb4⟩; rw [HE.out]; have g0 := (hb4.cell (p := ⟨bx, 0, none⟩) hz1).trans x0; have g1 := (hb4.cell (p := ⟨bx, 1, none⟩) hz1).trans x1; have g2 := (hb4.cell (p := ⟨bx, 2, none⟩) hz1).trans x2; have g3 := (hb4.cell (p := ⟨bx, 3, none⟩) hz1).trans x3; have g4 := (hb4.cell (p := ⟨bx, 4, none⟩) hz1).trans x4; have g5 := (hb4.cell (p := ⟨bx, 5, none⟩) hz1).trans x5; have g6 := (hb4.cell (p := ⟨bx + 1, 1, none⟩) hz2).trans HN3; have g7 := (hb4.cell (p := ⟨ba, oa, none⟩) hbz).trans hc0; have HB4 := Lib.hid hb4; clear hb4))
  go_wp2
  go_ret2
  refine ⟨rfl, ?_⟩
  rw [HBX.out]
  exact HB3'.out.drew.trans (HB4.out.mono (by have := HB3'.out.size; have := HBX.out; show bx ≤ w3.heap.size; omega))
end Go.Proofs.Ytgbnafakaaooiaa
