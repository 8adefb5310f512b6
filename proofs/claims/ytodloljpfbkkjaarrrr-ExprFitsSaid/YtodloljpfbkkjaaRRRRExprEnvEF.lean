/- The law ExprFits' own env: what it makes fits its scope. -/
import Derived.Test.YtodloljpfbkkjaaRRRRExprEnvB
namespace Go.Proofs.YtodloljpfbkkjaaRRRR.lenv
open Go.ChangeShapes Go.WideShapes Go.ChangeAt Go.RowKit

theorem fit_of {sizes : List Int} {x y cn cm z : Int} (h : cellsL sizes x y = (cn, cm, true)) (hz : ∀ j, j < sizes.length → 1 ≤ sizes.getD j 0 ∧ sizes.getD j 0 ≤ 50) (hf : FillOk cm z) : FitK sizes (kindOf x) z := by
  obtain ⟨⟨x1, x2, _, _⟩, _, hcm, _⟩ := cellsL_true h hz
  by_cases h0 : x = 0
  · subst h0
    obtain rfl : cm = 0 := by rw [hcm]; exact if_neg (by decide)
    unfold FillOk at hf
    rw [if_neg (by decide)] at hf
    exact .inl ⟨rfl, hf⟩
  · have e : cm = sizes.getD (x - 1).toNat 0 := by rw [hcm]; exact if_pos (by omega)
    have h1 := hz (x - 1).toNat (by omega)
    unfold FillOk at hf
    rw [if_pos (by omega)] at hf
    refine .inr (.inr ⟨(x - 1).toNat, ?_, by omega, hf.1, by rw [← e]; exact hf.2⟩)
    unfold kindOf
    rw [if_neg h0]
    omega
theorem ef_of {S : Sc} {VL PL : List (List Int)} {LL CL : List Int} {self : Int} (hz : ∀ j, j < S.sizes.length → 1 ≤ S.sizes.getD j 0 ∧ S.sizes.getD j 0 ≤ 50) (nv : VL.length = S.vars.length) (nl : LL.length = S.locals.length) (nc : CL.length = S.chans.length) (np : PL.length = S.procs.length)
    (hv : ∀ j, j < S.vars.length → VarOk S (S.vars.getD j (0, 0)) (VL.getD j [])) (hl : ∀ j, j < S.locals.length → LocOk S (S.locals.getD j (0, 0)) (LL.getD j 0)) (hc : ∀ j, j < S.chans.length → FillOk 4 (CL.getD j 0)) (hp : ∀ j, j < S.procs.length → ProcOk (S.procs.getD j 0) (PL.getD j []))
    (hs : 1 ≤ S.self → S.self ≤ S.sizes.length → 0 ≤ self ∧ self ≤ S.sizes.getD (S.self - 1).toNat 0) : EF S ⟨VL, CL, LL, PL, self⟩ := by
  have hV : ∀ n, n < S.vars.length → ∃ cn cm, cellsL S.sizes (S.vars.getD n (0, 0)).1 (S.vars.getD n (0, 0)).2 = (cn, cm, true) ∧ ((VL.getD n []).length : Int) = cn ∧ ∀ z ∈ VL.getD n [], FillOk cm z := fun n hn => by
    obtain ⟨h1, h2, h3⟩ := hv n hn
    refine ⟨_, _, ?_, h2, h3⟩
    rw [← h1]
  refine ⟨nv, nl, nc, np, fun n hn h0 => ?_, fun n hn h1 h2 => ?_, fun n hn i hi => ?_, fun n hn => ?_, fun n hn => ?_, fun n hn i hi => ?_, fun j hj => by have := hz j hj; omega, hs⟩
  · obtain ⟨cn, cm, e, h2, _⟩ := hV n hn
    obtain ⟨_, hcn, _⟩ := cellsL_true e hz
    rw [h0, if_neg (by decide)] at hcn
    show 0 < (VL.getD n []).length
    omega
  · obtain ⟨cn, cm, e, h3, _⟩ := hV n hn
    obtain ⟨_, hcn, _⟩ := cellsL_true e hz
    rw [if_pos (by omega)] at hcn
    show ((VL.getD n []).length : Int) = _
    rw [h3, hcn]
  · obtain ⟨cn, cm, e, _, h4⟩ := hV n hn
    exact fit_of e hz (h4 _ (getD_mem hi))
  · obtain ⟨h1, h2⟩ := hl n hn
    refine fit_of (y := (S.locals.getD n (0, 0)).2) (cn := (cellsL S.sizes (S.locals.getD n (0, 0)).1 (S.locals.getD n (0, 0)).2).1) (cm := (cellsL S.sizes (S.locals.getD n (0, 0)).1 (S.locals.getD n (0, 0)).2).2.1) ?_ hz h2
    rw [← h1]
  · have := hc n hn
    unfold FillOk at this
    rw [if_pos (by decide)] at this
    show -1048576 ≤ CL.getD n 0 ∧ CL.getD n 0 ≤ 1048576
    omega
  · obtain ⟨h1, h2⟩ := hp n hn
    have hlt : i < (PL.getD n []).length := by omega
    have := h2 _ (getD_mem hlt)
    unfold FillOk at this
    rw [if_pos (by decide)] at this
    show i < (PL.getD n []).length ∧ -1048576 ≤ (PL.getD n []).getD i 0 ∧ (PL.getD n []).getD i 0 ≤ 1048576
    omega
theorem turn5 {B : Nat} (w : World) {z : Nat} (hz : z < B) (v0 v1 v2 v3 v4 : Value) : Turn (fun q => q < B) w (((((w.setCell ⟨z, 0, none⟩ v0).setCell ⟨z, 1, none⟩ v1).setCell ⟨z, 2, none⟩ v2).setCell ⟨z, 3, none⟩ v3).setCell ⟨z, 4, none⟩ v4) :=
  Turn.set (Turn.set (Turn.set (Turn.set (Turn.set (Turn.refl _ _) _ _ hz) _ _ hz) _ _ hz) _ _ hz) _ _ hz
/-- Where the walk of env begins. -/
theorem start_facts (X : ScX) (w : World) (t1 t2 t3 : TypeId) : Bx (((w.alloc (.cells #[.slice X.a1 X.n1 X.c1, .slice X.a2 X.n2 X.c2, .slice X.a3 X.n3 X.c3, .slice X.a4 X.n4 X.c4, .slice X.a5 X.n5 X.c5, .int .i64 X.self] t1)).alloc (.cells #[.slice none 0 0, .slice none 0 0, .slice none 0 0, .slice none 0 0, .int .i64 0] t2)).alloc (.cells #[.slice none 0 0, .slice none 0 0, .slice none 0 0, .slice none 0 0, .int .i64 0] t3)) w.heap.size X ∧
    Five (((w.alloc (.cells #[.slice X.a1 X.n1 X.c1, .slice X.a2 X.n2 X.c2, .slice X.a3 X.n3 X.c3, .slice X.a4 X.n4 X.c4, .slice X.a5 X.n5 X.c5, .int .i64 X.self] t1)).alloc (.cells #[.slice none 0 0, .slice none 0 0, .slice none 0 0, .slice none 0 0, .int .i64 0] t2)).alloc (.cells #[.slice none 0 0, .slice none 0 0, .slice none 0 0, .slice none 0 0, .int .i64 0] t3)) (w.heap.size + 1) (.slice none 0 0) (.slice none 0 0) (.slice none 0 0) (.slice none 0 0) (.int .i64 0) ∧
    Five (((w.alloc (.cells #[.slice X.a1 X.n1 X.c1, .slice X.a2 X.n2 X.c2, .slice X.a3 X.n3 X.c3, .slice X.a4 X.n4 X.c4, .slice X.a5 X.n5 X.c5, .int .i64 X.self] t1)).alloc (.cells #[.slice none 0 0, .slice none 0 0, .slice none 0 0, .slice none 0 0, .int .i64 0] t2)).alloc (.cells #[.slice none 0 0, .slice none 0 0, .slice none 0 0, .slice none 0 0, .int .i64 0] t3)) (w.heap.size + 1 + 1) (.slice none 0 0) (.slice none 0 0) (.slice none 0 0) (.slice none 0 0) (.int .i64 0) ∧
    Below w.heap.size w (((w.alloc (.cells #[.slice X.a1 X.n1 X.c1, .slice X.a2 X.n2 X.c2, .slice X.a3 X.n3 X.c3, .slice X.a4 X.n4 X.c4, .slice X.a5 X.n5 X.c5, .int .i64 X.self] t1)).alloc (.cells #[.slice none 0 0, .slice none 0 0, .slice none 0 0, .slice none 0 0, .int .i64 0] t2)).alloc (.cells #[.slice none 0 0, .slice none 0 0, .slice none 0 0, .slice none 0 0, .int .i64 0] t3)) := by
  refine ⟨((Bx.new w X t1).below (below_alloc1 _ _)).below (below_alloc1 _ _), ?_, ?_, bthen (belowC2 _ _ _) (below_alloc1 _ _)⟩
  · have := (Five.new (w := w.alloc (.cells #[.slice X.a1 X.n1 X.c1, .slice X.a2 X.n2 X.c2, .slice X.a3 X.n3 X.c3, .slice X.a4 X.n4 X.c4, .slice X.a5 X.n5 X.c5, .int .i64 X.self] t1)) (v0 := .slice none 0 0) (v1 := .slice none 0 0) (v2 := .slice none 0 0) (v3 := .slice none 0 0) (v4 := .int .i64 0) (t := t2)).below (below_alloc1 _ (.cells #[.slice none 0 0, .slice none 0 0, .slice none 0 0, .slice none 0 0, .int .i64 0] t3))
    rwa [World.size_alloc] at this
  · have := (Five.new (w := (w.alloc (.cells #[.slice X.a1 X.n1 X.c1, .slice X.a2 X.n2 X.c2, .slice X.a3 X.n3 X.c3, .slice X.a4 X.n4 X.c4, .slice X.a5 X.n5 X.c5, .int .i64 X.self] t1)).alloc (.cells #[.slice none 0 0, .slice none 0 0, .slice none 0 0, .slice none 0 0, .int .i64 0] t2)) (v0 := .slice none 0 0) (v1 := .slice none 0 0) (v2 := .slice none 0 0) (v3 := .slice none 0 0) (v4 := .int .i64 0) (t := t3))
    rwa [World.size_alloc, World.size_alloc] at this
end Go.Proofs.YtodloljpfbkkjaaRRRR.lenv
