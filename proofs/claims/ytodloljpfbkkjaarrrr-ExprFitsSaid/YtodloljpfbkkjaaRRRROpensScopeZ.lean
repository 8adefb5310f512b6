/- Arguments opened: a scope, and that it has no more things than memory holds. -/
import Derived.Test.YtodloljpfbkkjaaRRRROpensScope
namespace Go.Proofs.YtodloljpfbkkjaaRRRR
open Go.Joins Go.ChangeShapes Go.WideShapes Go.ChangeAt Go.RowKit Go.Deep

variable {H : Type} {enc : TypeId × Value → H} {W : World}
set_option maxRecDepth 100000 in
/-- A scope that came in: argument j. -/
theorem open_scope_argz {base : Nat} {v : Value} {d : DataW H} {ps : List MemPlace} (hv : Value.okWide Try.prog W .any base 28 v) (h : DataW.Trod enc Try.prog W 0 (fun _ => true) true 28 v d ps)
    {ts : List TypeId} {ds : List (DataW H)} (hsz : (DataW.weightsEach Try.prog ts ds).all (· ≤ reachBytes) = true) (j : Nat) (htj : ts[j]? = some 28) (hdj : ds[j]? = some d) :
    ∃ (X : ScX) (S : Sc), v = X.v ∧ SR W X S ∧ X.n2 ≤ 1000000000000000 ∧ X.n3 ≤ 1000000000000000 ∧ X.n4 ≤ 1000000000000000 ∧ X.n5 ≤ 1000000000000000 := by
  obtain ⟨cs, n, rfl, hsz, hf⟩ := open_fields_w Try.underlying28 (by kernel_rfl) (by kernel_rfl) hv h (wt_arg hsz htj hdj)
  obtain ⟨u0, y0, g0, t0, w0⟩ := hf 0 _ rfl
  obtain ⟨u1, y1, g1, t1, w1⟩ := hf 1 _ rfl
  obtain ⟨u2, y2, g2, t2, w2⟩ := hf 2 _ rfl
  obtain ⟨u3, y3, g3, t3, w3⟩ := hf 3 _ rfl
  obtain ⟨u4, y4, g4, t4, w4⟩ := hf 4 _ rfl
  obtain ⟨u5, y5, g5, t5, w5⟩ := hf 5 _ rfl
  obtain ⟨A1, c1, z1, rfl, b1, r1⟩ := open_sa t0 w0
  obtain ⟨A2, c2, z2, rfl, b2, r2⟩ := open_va t1 w1
  obtain ⟨A3, c3, z3, rfl, b3, r3⟩ := open_ca t2 w2
  obtain ⟨A4, c4, z4, rfl, b4, r4⟩ := open_qa t3 w3
  obtain ⟨A5, c5, z5, rfl, b5, r5⟩ := open_va t4 w4
  obtain ⟨z6, rfl, _⟩ := int_cell Try.underlying3 t5
  obtain ⟨l⟩ := cs
  match l, hsz with
  | [a, b, c, d, e, f], _ =>
    simp at g0 g1 g2 g3 g4 g5
    subst g0 g1 g2 g3 g4 g5
    exact ⟨⟨A1, A2, A3, A4, A5, z1.length, c1, z2.length, c2, z3.length, c3, z4.length, c4, z5.length, c5, z6⟩, ⟨z1, z2, z3, z4, z5, z6⟩, rfl, ⟨rfl, rfl, rfl, rfl, rfl, rfl, b1, r1, r2, r3, r4, r5⟩, b2, b3, b4, b5⟩
end Go.Proofs.YtodloljpfbkkjaaRRRR
