/- Arguments opened: an environment. -/
import Derived.Test.YtodloljpfbkkjaaRRRROpensN
import Derived.Test.YtodloljpfbkkjaaRRRRExprEnv
import Derived.Lib.SmallJoins
import Derived.Deep.Fields
namespace Go.Proofs.YtodloljpfbkkjaaRRRR
open Go.Joins Go.ChangeShapes Go.WideShapes Go.ChangeAt Go.RowKit Go.Deep

variable {H : Type} {enc : TypeId × Value → H} {W : World}
theorem lt_of_cell {w : World} {b o : Nat} {v : Value} (h : w.cell? ⟨b, o, none⟩ = some v) : b < w.heap.size := by
  rcases Nat.lt_or_ge b w.heap.size with hlt | hge
  · exact hlt
  · simp [World.cell?, Array.getElem?_eq_none hge] at h
/-- A struct by value whose fields are one cell each: each field's cell and what it is. -/
theorem open_fields {P : Program} {r : Reach} {b0 : Nat} {t : TypeId} {fs : Array Field} {v : Value} {d : DataW H} {p : List MemPlace} (hs : P.underlying t = some (.struct fs)) (hone : oneCellFields P fs = true) (hC : P.cellsOf t = fs.size)
    (hv : Value.okWide P W r b0 t v) (h : DataW.Trod enc P W 0 (fun _ => true) true t v d p) :
    ∃ (cs : Array Value) (n : Nat), v = .agg cs ∧ cs.size = fs.size ∧ ∀ (j : Nat) (f : Field), fs[j]? = some f → ∃ u y, cs[j]? = some u ∧ DataW.trod enc P W 0 (fun _ => true) true n f.type [u] = some y := by
  obtain ⟨cs, rfl, hsz⟩ := okWide_struct hs hv
  obtain ⟨fuel, hf⟩ := h
  obtain ⟨xs, n, _, _, _, hlen, hg⟩ := DataW.trod_struct hs hf
  refine ⟨cs, n, rfl, hsz.trans hC, fun j f hj => ?_⟩
  obtain ⟨ho, hk⟩ := hone_of hone j f hj
  have hjl : j < fs.size := (Array.getElem?_eq_some_iff.1 hj).1
  have hjc : j < cs.toList.length := by
    have := hsz.trans hC
    simp; omega
  have h1 := hg j f hj
  rw [ho, hk] at h1
  have h2 : ((Value.agg cs).cells.toList.drop j).take 1 = [cs.toList.getD j undef] := take1_drop cs.toList j undef hjc
  rw [h2] at h1
  have hx : xs[j]? = some (xs[j]'(by omega)) := List.getElem?_eq_getElem (by omega)
  exact ⟨_, _, by simp [List.getD, show j < cs.size by simpa using hjc], h1.trans hx⟩
set_option maxRecDepth 100000 in
theorem open_row_ia {t e : TypeId} {n : Nat} {v : Value} {x : DataW H × List MemPlace} (ht : Try.prog.underlying t = some (.slice e)) (he : Try.prog.underlying e = some (.int .i64)) (hc : Try.prog.cellsOf e = 1)
    (h : DataW.trod enc Try.prog W 0 (fun _ => true) true n t [v] = some x) : ∃ A c zs, v = .slice A zs.length c ∧ IA W A zs := by
  rcases open_ints ht he hc h with ⟨hcs, _⟩ | ⟨a, len, cap, zs, hcs, _, hl, hm, hz, _, hcell, hw⟩
  · injection hcs with hcs
    exact ⟨none, 0, [], hcs, IA.nil _ _⟩
  · injection hcs with hcs
    simp only [if_true] at hz
    have hlen : (zs.take len).length = len := by simp; omega
    refine ⟨some a, cap, zs.take len, by rw [hlen]; exact hcs, fun h0 => ?_⟩
    obtain ⟨b, off, spot⟩ := a
    have g0 := hcell 0 (by omega)
    have hspot : spot = none := by simpa [Addr.add] using World.cell?_spot g0
    subst hspot
    rw [add_plain] at g0
    refine ⟨b, off, rfl, lt_of_cell g0, fun i hi => ?_⟩
    have g := hcell i (by omega)
    rw [add_plain] at g
    rw [g]
    simp [List.getD, show i < len by omega]
set_option maxRecDepth 100000 in
theorem open_rows_ri {t e e2 : TypeId} {n : Nat} {v : Value} {x : DataW H × List MemPlace} (ht : Try.prog.underlying t = some (.slice e)) (hc : Try.prog.cellsOf e = 1) (ht2 : Try.prog.underlying e = some (.slice e2)) (he : Try.prog.underlying e2 = some (.int .i64)) (hc2 : Try.prog.cellsOf e2 = 1)
    (hsmall : ∀ {v : Value} {m : Nat} {y : DataW H × List MemPlace}, DataW.trod enc Try.prog W 0 (fun _ => true) true m e [v] = some y → ∀ A l c, v = .slice A l c → l ≤ 9223372036854775807)
    (h : DataW.trod enc Try.prog W 0 (fun _ => true) true n t [v] = some x) : ∃ A c rows, v = .slice A rows.length c ∧ RI W A rows := by
  rcases open_slice1 ht hc h with ⟨hcs, _⟩ | ⟨a, len, cap, m, n, V, D, Pl, hcs, _, hl, hm, hmm, _, hcell⟩
  · injection hcs with hcs
    exact ⟨none, 0, [], hcs, fun h => absurd h (by simp)⟩
  · injection hcs with hcs
    simp only [if_true] at hmm
    obtain ⟨R, hR⟩ := choose_lt (α := List Int) (n := len) (p := fun i r => ∃ A c, V i = .slice A r.length c ∧ r.length ≤ 9223372036854775807 ∧ IA W A r) (fun i hi => by
      have hh := (hcell i (by omega)).2
      obtain ⟨A, c, zs, h1, h2⟩ := open_row_ia ht2 he hc2 hh
      exact ⟨zs, A, c, h1, hsmall hh _ _ _ h1, h2⟩)
    refine ⟨some a, cap, (List.range len).map R, by simpa using hcs, fun h0 => ?_⟩
    simp only [List.length_map, List.length_range] at h0
    obtain ⟨b, off, spot⟩ := a
    have g0 := (hcell 0 (by omega)).1
    have hspot : spot = none := by simpa [Addr.add] using World.cell?_spot g0
    subst hspot
    rw [add_plain] at g0
    refine ⟨b, off, rfl, lt_of_cell g0, fun i hi => ?_⟩
    simp only [List.length_map, List.length_range] at hi
    have g := (hcell i (by omega)).1
    rw [add_plain] at g
    obtain ⟨A', c', e', h2, h3⟩ := hR i hi
    have hd : ((List.range len).map R).getD i [] = R i := by simp [List.getD, hi]
    rw [hd]
    exact ⟨A', c', by rw [g, e'], h2, h3⟩
theorem slice_small {t e : TypeId} {m : Nat} {v : Value} {y : DataW H × List MemPlace} (ht : Try.prog.underlying t = some (.slice e)) (he : Try.prog.underlying e = some (.int .i64)) (hc : Try.prog.cellsOf e = 1)
    (h : DataW.trod enc Try.prog W 0 (fun _ => true) true m t [v] = some y) : ∀ A l c, v = .slice A l c → l ≤ 9223372036854775807 := by
  intro A l c hv
  rcases open_ints ht he hc h with ⟨hcs, _⟩ | ⟨a, len, cap, zs, hcs, _, hl, hm, _⟩
  · injection hcs with hcs
    rw [hcs] at hv
    injection hv with _ h2 _
    omega
  · injection hcs with hcs
    rw [hcs] at hv
    injection hv with _ h2 _
    unfold maxLen at hm
    omega

set_option maxRecDepth 100000 in
/-- An environment that came in: argument j. -/
theorem open_env_arg {base : Nat} {v : Value} {d : DataW H} {ps : List MemPlace} (hv : Value.okWide Try.prog W .any base 33 v) (h : DataW.Trod enc Try.prog W 0 (fun _ => true) true 33 v d ps) :
    ∃ (X : EvX) (E : Ev), v = X.v ∧ ER W X E := by
  obtain ⟨cs, n, rfl, hsz, hf⟩ := open_fields Try.underlying33 (by kernel_rfl) (by kernel_rfl) hv h
  obtain ⟨u0, y0, g0, t0⟩ := hf 0 _ rfl
  obtain ⟨u1, y1, g1, t1⟩ := hf 1 _ rfl
  obtain ⟨u2, y2, g2, t2⟩ := hf 2 _ rfl
  obtain ⟨u3, y3, g3, t3⟩ := hf 3 _ rfl
  obtain ⟨u4, y4, g4, t4⟩ := hf 4 _ rfl
  obtain ⟨A1, c1, z1, rfl, r1⟩ := open_rows_ri Try.underlying31 (by kernel_rfl) Try.underlying29 Try.underlying3 Try.cells3 (fun hh => slice_small Try.underlying29 Try.underlying3 Try.cells3 hh) t0
  obtain ⟨A2, c2, z2, rfl, r2⟩ := open_row_ia Try.underlying29 Try.underlying3 Try.cells3 t1
  obtain ⟨A3, c3, z3, rfl, r3⟩ := open_row_ia Try.underlying29 Try.underlying3 Try.cells3 t2
  obtain ⟨A4, c4, z4, rfl, r4⟩ := open_rows_ri Try.underlying31 (by kernel_rfl) Try.underlying29 Try.underlying3 Try.cells3 (fun hh => slice_small Try.underlying29 Try.underlying3 Try.cells3 hh) t3
  obtain ⟨z5, e5, _, _⟩ := DataW.trod_int Try.underlying3 t4
  injection e5 with e5
  subst e5
  obtain ⟨l⟩ := cs
  match l, hsz with
  | [a, b, c, d, e], _ =>
    simp at g0 g1 g2 g3 g4
    subst g0 g1 g2 g3 g4
    exact ⟨⟨A1, A2, A3, A4, z1.length, c1, z2.length, c2, z3.length, c3, z4.length, c4, z5⟩, ⟨z1, z2, z3, z4, z5⟩, rfl, rfl, rfl, rfl, rfl, rfl, r1, r2, r3, r4⟩
end Go.Proofs.YtodloljpfbkkjaaRRRR
