/- A graph that comes in, with the sizes of its rows. -/
import Derived.Test.YtnfiohekdbjgoaaOpensSt
import Derived.Test.YtnfiohekdbjgoaaSccLive
namespace Go.Proofs.Ytnfiohekdbjgoaa.sc
open Go.Joins Go.ChangeShapes Go.WideShapes Go.ChangeAt Go.RowKit Go.Deep Go.Proofs.Ytnfiohekdbjgoaa.dcl

variable {H : Type} {enc : TypeId × Value → H} {W : World}
theorem open_row_pairs_w {t e : TypeId} {f0 f1 : Field} {n : Nat} {v : Value} {x : DataW H × List MemPlace} (ht : Try.prog.underlying t = some (.slice e)) (he : Try.prog.underlying e = some (.struct #[f0, f1]))
    (ce : Try.prog.cellsOf e = 2) (o0 : f0.offset = 0) (o1 : f1.offset = 1) (t0 : f0.type = 3) (t1 : f1.type = 3) (hb : 16 ≤ Try.prog.bytesOf e) (h : DataW.trod enc Try.prog W 0 (fun _ => true) true n t [v] = some x) (hw : Wt Try.prog t x.1) :
    ∃ A c zs, v = .slice A zs.length c ∧ zs.length * 16 ≤ reachBytes ∧ zs.length ≤ c ∧ c ≤ maxLen ∧ PA W A zs ∧ ∀ z ∈ zs, (Lit.int .i64 z.1).wf = true ∧ (Lit.int .i64 z.2).wf = true := by
  rcases open_slice_pairs ht he ce o0 o1 (by rw [t0]; exact Try.cells3) (by rw [t1]; exact Try.cells3) h with ⟨hcs, hx⟩ | ⟨a, len, cap, m, n, V0, V1, D0, D1, P0, P1, hcs, _, hl, hm, hmm, hx, hcell⟩
  · injection hcs with hcs
    exact ⟨none, 0, [], hcs, by simp, Nat.le_refl _, Nat.zero_le _, fun h => absurd h (by simp), fun z hz => by simp at hz⟩
  · injection hcs with hcs
    simp only [if_true] at hmm
    have hlen : len * 16 ≤ reachBytes := by
      have hw2 := hw
      rw [hx] at hw2
      have h9 := wt_len ht hw2
      simp only [List.length_map, List.length_range] at h9
      exact Nat.le_trans (Nat.mul_le_mul_left _ hb) h9
    have hval : ∀ i, i < len → V0 i = .int .i64 (numV (V0 i)) ∧ V1 i = .int .i64 (numV (V1 i)) ∧ (Lit.int .i64 (numV (V0 i))).wf = true ∧ (Lit.int .i64 (numV (V1 i))).wf = true := fun i hi => by
      obtain ⟨_, _, g0, g1⟩ := hcell i (by omega)
      rw [t0] at g0
      rw [t1] at g1
      obtain ⟨z0, e0, _, w0⟩ := DataW.trod_int Try.underlying3 g0
      obtain ⟨z1, e1, _, w1⟩ := DataW.trod_int Try.underlying3 g1
      injection e0 with e0
      injection e1 with e1
      rw [e0, e1]
      exact ⟨rfl, rfl, w0, w1⟩
    refine ⟨some a, cap, (List.range len).map fun i => (numV (V0 i), numV (V1 i)), by simpa using hcs, by simpa using hlen, by simpa using hl, hm, fun h0 => ?_, fun z hz => ?_⟩
    · simp only [List.length_map, List.length_range] at h0
      obtain ⟨b, off, spot⟩ := a
      have g0 := (hcell 0 (by omega)).1
      have hspot : spot = none := by simpa [Addr.add] using World.cell?_spot g0
      subst hspot
      rw [add_plain] at g0
      refine ⟨b, off, rfl, lt_of_cell g0, fun i hi => ?_⟩
      simp only [List.length_map, List.length_range] at hi
      obtain ⟨g1, g2, _, _⟩ := hcell i (by omega)
      obtain ⟨e1, e2, _, _⟩ := hval i hi
      rw [add_plain] at g1 g2
      rw [show off + i * 2 + 1 = off + (i * 2 + 1) by omega, g1, g2, e1, e2]
      simp [List.getD, hi, numV]
    · obtain ⟨i, hi, rfl⟩ := List.mem_map.1 hz
      have hi2 := List.mem_range.1 hi
      obtain ⟨_, _, w0, w1⟩ := hval i hi2
      exact ⟨w0, w1⟩
/-- The row that a value reads as. -/
def ReadsW (W : World) (v : Value) (zs : List (Int × Int)) : Prop := ∃ A c, v = .slice A zs.length c ∧ zs.length * 16 ≤ reachBytes ∧ zs.length ≤ c ∧ c ≤ maxLen ∧ PA W A zs ∧ ∀ z ∈ zs, (Lit.int .i64 z.1).wf = true ∧ (Lit.int .i64 z.2).wf = true
theorem open_rows_w {t e e2 : TypeId} {f0 f1 : Field} {n : Nat} {v : Value} {x : DataW H × List MemPlace} (ht : Try.prog.underlying t = some (.slice e)) (hc : Try.prog.cellsOf e = 1) (ht2 : Try.prog.underlying e = some (.slice e2)) (he : Try.prog.underlying e2 = some (.struct #[f0, f1]))
    (ce : Try.prog.cellsOf e2 = 2) (o0 : f0.offset = 0) (o1 : f1.offset = 1) (t0 : f0.type = 3) (t1 : f1.type = 3) (hb : 16 ≤ Try.prog.bytesOf e2) (h : DataW.trod enc Try.prog W 0 (fun _ => true) true n t [v] = some x) (hw : Wt Try.prog t x.1) :
    ∃ A c rows, v = .slice A rows.length c ∧ rows.length ≤ c ∧ c ≤ maxLen ∧ RA W A rows ∧ (∀ r ∈ rows, r.length * 16 ≤ reachBytes) ∧ ∀ r ∈ rows, ∀ z ∈ r, (Lit.int .i64 z.1).wf = true ∧ (Lit.int .i64 z.2).wf = true := by
  rcases open_slice1 ht hc h with ⟨hcs, hx⟩ | ⟨a, len, cap, m, n, V, D, Pl, hcs, _, hl, hm, hmm, hx, hcell⟩
  · injection hcs with hcs
    exact ⟨none, 0, [], hcs, Nat.le_refl _, Nat.zero_le _, fun h => absurd h (by simp), fun z hz => by simp at hz, fun z hz => by simp at hz⟩
  · injection hcs with hcs
    simp only [if_true] at hmm
    obtain ⟨R, hR⟩ := choose_lt (α := List (Int × Int)) (n := len) (p := fun i r => ReadsW W (V i) r) (fun i hi => by
      have hwi : Wt Try.prog e (D i) := by
        have hw2 := hw
        rw [hx] at hw2
        exact wt_elem ht hw2 (List.mem_map.2 ⟨i, List.mem_range.2 hi, rfl⟩)
      obtain ⟨A, c, zs, h1, h2, h3, h4, h5, h6⟩ := open_row_pairs_w ht2 he ce o0 o1 t0 t1 hb (hcell i (by omega)).2 hwi
      exact ⟨zs, A, c, h1, h2, h3, h4, h5, h6⟩)
    refine ⟨some a, cap, (List.range len).map R, by simpa using hcs, by simpa using hl, hm, fun h0 => ?_, fun r hr => ?_, fun r hr => ?_⟩
    · simp only [List.length_map, List.length_range] at h0
      obtain ⟨b, off, spot⟩ := a
      have g0 := (hcell 0 (by omega)).1
      have hspot : spot = none := by simpa [Addr.add] using World.cell?_spot g0
      subst hspot
      rw [add_plain] at g0
      refine ⟨b, off, rfl, lt_of_cell g0, fun i hi => ?_⟩
      simp only [List.length_map, List.length_range] at hi
      have g := (hcell i (by omega)).1
      rw [add_plain] at g
      obtain ⟨A', c', e', _, h2, h3, h4, _⟩ := hR i hi
      have hd : ((List.range len).map R).getD i [] = R i := by simp [List.getD, hi]
      rw [hd]
      exact ⟨A', c', by rw [g, e'], h2, h3, h4⟩
    · obtain ⟨i, hi, rfl⟩ := List.mem_map.1 hr
      obtain ⟨_, _, _, h5, _⟩ := hR i (List.mem_range.1 hi)
      exact h5
    · obtain ⟨i, hi, rfl⟩ := List.mem_map.1 hr
      obtain ⟨_, _, _, _, _, _, _, h5⟩ := hR i (List.mem_range.1 hi)
      exact h5


set_option maxRecDepth 100000 in
theorem open_graph_argw {base : Nat} {v : Value} {d : DataW H} {ps : List MemPlace} (hv : Value.okWide Try.prog W .any base 26 v) (h : DataW.Trod enc Try.prog W 0 (fun _ => true) true 26 v d ps)
    {ts : List TypeId} {ds : List (DataW H)} (hsz : (DataW.weightsEach Try.prog ts ds).all (· ≤ reachBytes) = true) (j : Nat) (htj : ts[j]? = some 26) (hdj : ds[j]? = some d) :
    ∃ G, GV W v G ∧ ∀ i, (G.rows.getD i []).length * 16 ≤ reachBytes := by
  obtain ⟨cs, n, rfl, hcs, hf⟩ := open_fields_w Try.underlying26 (by kernel_rfl) (by kernel_rfl) hv h (wt_arg hsz htj hdj)
  obtain ⟨u0, y0, g0, t0, w0⟩ := hf 0 _ rfl
  obtain ⟨u1, y1, g1, t1, w1⟩ := hf 1 _ rfl
  obtain ⟨u2, y2, g2, t2, w2⟩ := hf 2 _ rfl
  obtain ⟨A1, c1, z1, rfl, a1, b1, d1, _⟩ := open_row_ints Try.underlying22 Try.underlying3 Try.cells3 t0
  obtain ⟨A2, c2, z2, rfl, a2, b2, d2, e2, _⟩ := open_rows_w Try.underlying23 (by kernel_rfl) Try.underlying39 Try.underlying46 (by kernel_rfl) rfl rfl rfl rfl (by rw [show Try.prog.bytesOf 46 = 16 by kernel_rfl]; exact Nat.le_refl _) t1 w1
  obtain ⟨A3, c3, z3, rfl, a3, b3, d3, _⟩ := open_row_ints Try.underlying24 Try.underlying63 (by kernel_rfl) t2
  obtain ⟨l⟩ := cs
  match l, hcs with
  | [a, b, c], _ =>
    simp at g0 g1 g2
    subst g0 g1 g2
    refine ⟨⟨z1, z2, z3⟩, ⟨A1, c1, A2, c2, A3, c3, rfl, ⟨a1, b1, d1⟩, ⟨a2, b2, d2⟩, ⟨a3, b3, d3⟩⟩, fun i => ?_⟩
    show (z2.getD i []).length * 16 ≤ reachBytes
    by_cases hi : i < z2.length
    · have : z2.getD i [] = z2[i] := by simp [List.getD, hi]
      rw [this]
      exact e2 _ (List.getElem_mem hi)
    · have : z2.getD i [] = [] := by simp [List.getD, List.getElem?_eq_none (show z2.length ≤ i by omega)]
      rw [this]; simp
end Go.Proofs.Ytnfiohekdbjgoaa.sc
