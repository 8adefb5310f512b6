/- A graph that came in: its starts, rows of edges, labels. -/
import Derived.Test.YtnfiohekdbjgoaaOpensP
import Derived.Lib.SmallJoins
namespace Go.Proofs.Ytnfiohekdbjgoaa
open Go.Joins Go.ChangeShapes Go.WideShapes Go.ChangeAt Go.RowKit Go.Deep

/-- A slice of numbers of one kind at address A (nil let in) reads as zs. -/
def LA (k : IntKind) (w : World) (A : Option Addr) (zs : List Int) : Prop :=
  0 < zs.length → ∃ b off, A = some ⟨b, off, none⟩ ∧ b < w.heap.size ∧ ∀ i, i < zs.length → w.cell? ⟨b, off + i, none⟩ = some (.int k (zs.getD i 0))
/-- A slice of slices of pairs of ints at address A (nil let in) reads as rows. -/
def RA (w : World) (A : Option Addr) (rows : List (List (Int × Int))) : Prop :=
  0 < rows.length → ∃ b off, A = some ⟨b, off, none⟩ ∧ b < w.heap.size ∧ ∀ i, i < rows.length → ∃ A' c', w.cell? ⟨b, off + i, none⟩ = some (.slice A' (rows.getD i []).length c') ∧ (rows.getD i []).length ≤ c' ∧ c' ≤ maxLen ∧ PA w A' (rows.getD i [])
/-- A graph. -/
structure Gr where
  init : List Int
  rows : List (List (Int × Int))
  labels : List Int
/-- A value that reads as a graph. -/
def GV (w : World) (v : Value) (G : Gr) : Prop := ∃ A1 c1 A2 c2 A3 c3, v = .agg #[.slice A1 G.init.length c1, .slice A2 G.rows.length c2, .slice A3 G.labels.length c3] ∧
  (G.init.length ≤ c1 ∧ c1 ≤ maxLen ∧ LA .i64 w A1 G.init) ∧ (G.rows.length ≤ c2 ∧ c2 ≤ maxLen ∧ RA w A2 G.rows) ∧ (G.labels.length ≤ c3 ∧ c3 ≤ maxLen ∧ LA .u64 w A3 G.labels)
/-- Its numbers fit their kinds. -/
def Gr.fits (G : Gr) : Prop := (∀ z ∈ G.init, (Lit.int .i64 z).wf = true) ∧ (∀ r ∈ G.rows, ∀ z ∈ r, (Lit.int .i64 z.1).wf = true ∧ (Lit.int .i64 z.2).wf = true) ∧ ∀ z ∈ G.labels, (Lit.int .u64 z).wf = true

theorem lt_of_cell {w : World} {b o : Nat} {v : Value} (h : w.cell? ⟨b, o, none⟩ = some v) : b < w.heap.size := by
  rcases Nat.lt_or_ge b w.heap.size with hlt | hge
  · exact hlt
  · simp [World.cell?, Array.getElem?_eq_none hge] at h

variable {H : Type} {enc : TypeId × Value → H} {W : World}
theorem open_row_ints {t e : TypeId} {k : IntKind} {n : Nat} {v : Value} {x : DataW H × List MemPlace} (ht : Try.prog.underlying t = some (.slice e)) (he : Try.prog.underlying e = some (.int k)) (hc : Try.prog.cellsOf e = 1)
    (h : DataW.trod enc Try.prog W 0 (fun _ => true) true n t [v] = some x) : ∃ A c zs, v = .slice A zs.length c ∧ zs.length ≤ c ∧ c ≤ maxLen ∧ LA k W A zs ∧ ∀ z ∈ zs, (Lit.int k z).wf = true := by
  rcases open_ints ht he hc h with ⟨hcs, _⟩ | ⟨a, len, cap, zs, hcs, _, hl, hm, hz, _, hcell, hw⟩
  · injection hcs with hcs
    exact ⟨none, 0, [], hcs, Nat.le_refl _, Nat.zero_le _, fun h => absurd h (by simp), fun z hz => by simp at hz⟩
  · injection hcs with hcs
    simp only [if_true] at hz
    have hlen : (zs.take len).length = len := by simp; omega
    refine ⟨some a, cap, zs.take len, by rw [hlen]; exact hcs, by omega, hm, fun h0 => ?_, fun z hz => hw z (List.mem_of_mem_take hz)⟩
    obtain ⟨b, off, spot⟩ := a
    have g0 := hcell 0 (by omega)
    have hspot : spot = none := by simpa [Addr.add] using World.cell?_spot g0
    subst hspot
    rw [add_plain] at g0
    refine ⟨b, off, rfl, lt_of_cell g0, fun i hi => ?_⟩
    have g := hcell i (by omega)
    rw [add_plain] at g
    rw [g]
    simp [List.getD, show i < len by omega]
theorem open_row_pairs {t e : TypeId} {f0 f1 : Field} {n : Nat} {v : Value} {x : DataW H × List MemPlace} (ht : Try.prog.underlying t = some (.slice e)) (he : Try.prog.underlying e = some (.struct #[f0, f1]))
    (ce : Try.prog.cellsOf e = 2) (o0 : f0.offset = 0) (o1 : f1.offset = 1) (t0 : f0.type = 3) (t1 : f1.type = 3) (h : DataW.trod enc Try.prog W 0 (fun _ => true) true n t [v] = some x) :
    ∃ A c zs, v = .slice A zs.length c ∧ zs.length ≤ c ∧ c ≤ maxLen ∧ PA W A zs ∧ ∀ z ∈ zs, (Lit.int .i64 z.1).wf = true ∧ (Lit.int .i64 z.2).wf = true := by
  rcases open_slice_pairs ht he ce o0 o1 (by rw [t0]; exact Try.cells3) (by rw [t1]; exact Try.cells3) h with ⟨hcs, _⟩ | ⟨a, len, cap, m, n, V0, V1, D0, D1, P0, P1, hcs, _, hl, hm, hmm, _, hcell⟩
  · injection hcs with hcs
    exact ⟨none, 0, [], hcs, Nat.le_refl _, Nat.zero_le _, fun h => absurd h (by simp), fun z hz => by simp at hz⟩
  · injection hcs with hcs
    simp only [if_true] at hmm
    have hval : ∀ i, i < len → V0 i = .int .i64 (numV (V0 i)) ∧ V1 i = .int .i64 (numV (V1 i)) ∧ (Lit.int .i64 (numV (V0 i))).wf = true ∧ (Lit.int .i64 (numV (V1 i))).wf = true := fun i hi => by
      obtain ⟨_, _, g0, g1⟩ := hcell i (by omega)
      rw [t0] at g0
      rw [t1] at g1
      obtain ⟨z0, e0, _, w0⟩ := DataW.trod_int Try.underlying3 g0
      obtain ⟨z1, e1, _, w1⟩ := DataW.trod_int Try.underlying3 g1
      injection e0 with e0
      injection e1 with e1
      rw [e0, e1]
      exact ⟨rfl, rfl, w0, w1⟩
    refine ⟨some a, cap, (List.range len).map fun i => (numV (V0 i), numV (V1 i)), by simpa using hcs, by simpa using hl, hm, fun h0 => ?_, fun z hz => ?_⟩
    · simp only [List.length_map, List.length_range] at h0
      obtain ⟨b, off, spot⟩ := a
      have g0 := (hcell 0 (by omega)).1
      have hspot : spot = none := by simpa [Addr.add] using World.cell?_spot g0
      subst hspot
      rw [add_plain] at g0
      refine ⟨b, off, rfl, lt_of_cell g0, fun i hi => ?_⟩
      simp only [List.length_map, List.length_range] at hi
      obtain ⟨g1, g2, _, _⟩ := hcell i (by omega)
      obtain ⟨e1, e2, _, _⟩ := hval i hi
      rw [add_plain] at g1 g2
      rw [show off + i * 2 + 1 = off + (i * 2 + 1) by omega, g1, g2, e1, e2]
      simp [List.getD, hi, numV]
    · obtain ⟨i, hi, rfl⟩ := List.mem_map.1 hz
      have hi2 := List.mem_range.1 hi
      obtain ⟨_, _, w0, w1⟩ := hval i hi2
      exact ⟨w0, w1⟩
/-- The row that a value reads as. -/
def Reads (W : World) (v : Value) (zs : List (Int × Int)) : Prop := ∃ A c, v = .slice A zs.length c ∧ zs.length ≤ c ∧ c ≤ maxLen ∧ PA W A zs ∧ ∀ z ∈ zs, (Lit.int .i64 z.1).wf = true ∧ (Lit.int .i64 z.2).wf = true
theorem open_rows {t e e2 : TypeId} {f0 f1 : Field} {n : Nat} {v : Value} {x : DataW H × List MemPlace} (ht : Try.prog.underlying t = some (.slice e)) (hc : Try.prog.cellsOf e = 1) (ht2 : Try.prog.underlying e = some (.slice e2)) (he : Try.prog.underlying e2 = some (.struct #[f0, f1]))
    (ce : Try.prog.cellsOf e2 = 2) (o0 : f0.offset = 0) (o1 : f1.offset = 1) (t0 : f0.type = 3) (t1 : f1.type = 3) (h : DataW.trod enc Try.prog W 0 (fun _ => true) true n t [v] = some x) :
    ∃ A c rows, v = .slice A rows.length c ∧ rows.length ≤ c ∧ c ≤ maxLen ∧ RA W A rows ∧ ∀ r ∈ rows, ∀ z ∈ r, (Lit.int .i64 z.1).wf = true ∧ (Lit.int .i64 z.2).wf = true := by
  rcases open_slice1 ht hc h with ⟨hcs, _⟩ | ⟨a, len, cap, m, n, V, D, Pl, hcs, _, hl, hm, hmm, _, hcell⟩
  · injection hcs with hcs
    exact ⟨none, 0, [], hcs, Nat.le_refl _, Nat.zero_le _, fun h => absurd h (by simp), fun z hz => by simp at hz⟩
  · injection hcs with hcs
    simp only [if_true] at hmm
    obtain ⟨R, hR⟩ := choose_lt (α := List (Int × Int)) (n := len) (p := fun i r => Reads W (V i) r) (fun i hi => by
      obtain ⟨A, c, zs, h1, h2, h3, h4, h5⟩ := open_row_pairs ht2 he ce o0 o1 t0 t1 (hcell i (by omega)).2
      exact ⟨zs, A, c, h1, h2, h3, h4, h5⟩)
    refine ⟨some a, cap, (List.range len).map R, by simpa using hcs, by simpa using hl, hm, fun h0 => ?_, fun r hr => ?_⟩
    · simp only [List.length_map, List.length_range] at h0
      obtain ⟨b, off, spot⟩ := a
      have g0 := (hcell 0 (by omega)).1
      have hspot : spot = none := by simpa [Addr.add] using World.cell?_spot g0
      subst hspot
      rw [add_plain] at g0
      refine ⟨b, off, rfl, lt_of_cell g0, fun i hi => ?_⟩
      simp only [List.length_map, List.length_range] at hi
      have g := (hcell i (by omega)).1
      rw [add_plain] at g
      obtain ⟨A', c', e', h2, h3, h4, _⟩ := hR i hi
      have hd : ((List.range len).map R).getD i [] = R i := by simp [List.getD, hi]
      rw [hd]
      exact ⟨A', c', by rw [g, e'], h2, h3, h4⟩
    · obtain ⟨i, hi, rfl⟩ := List.mem_map.1 hr
      obtain ⟨_, _, _, _, _, _, h5⟩ := hR i (List.mem_range.1 hi)
      exact h5

theorem graph_cells : Try.prog.cellsOf 26 = 3 := by kernel_rfl
set_option maxRecDepth 100000 in
theorem open_graph_arg {base : Nat} {v : Value} {d : DataW H} {ps : List MemPlace} (hv : Value.okWide Try.prog W .any base 26 v) (h : DataW.Trod enc Try.prog W 0 (fun _ => true) true 26 v d ps) :
    ∃ G, GV W v G ∧ G.fits := by
  obtain ⟨v0, v1, v2, y0, y1, y2, n, rfl, _, _, h0, h1, h2⟩ := open_agg3 Try.underlying26 (by kernel_rfl) graph_cells hv h
  obtain ⟨A1, c1, z1, rfl, a1, b1, d1, w1⟩ := open_row_ints Try.underlying22 Try.underlying3 Try.cells3 h0
  obtain ⟨A2, c2, z2, rfl, a2, b2, d2, w2⟩ := open_rows Try.underlying23 (by kernel_rfl) Try.underlying39 Try.underlying46 (by kernel_rfl) rfl rfl rfl rfl h1
  obtain ⟨A3, c3, z3, rfl, a3, b3, d3, w3⟩ := open_row_ints Try.underlying24 Try.underlying63 (by kernel_rfl) h2
  exact ⟨⟨z1, z2, z3⟩, ⟨A1, c1, A2, c2, A3, c3, rfl, ⟨a1, b1, d1⟩, ⟨a2, b2, d2⟩, ⟨a3, b3, d3⟩⟩, w1, w2, w3⟩
end Go.Proofs.Ytnfiohekdbjgoaa
