/- The program's Names: a model's whole structs; own rows of text slices. -/
import Derived.Test.YtodloljpfbkkjaaRRRRNamed
import Derived.Test.YtodloljpfbkkjaaRRRRGathered
namespace Go.Proofs.YtodloljpfbkkjaaRRRR.nms
open Go.ChangeShapes Go.WideShapes Go.ChangeAt Go.RowKit Go.Deep Go.Joins

/-- A process' variables and commands lie there, whole. -/
structure PLp (w : World) (p : PN) : Prop where
  l1 : p.n1 = p.vars.length
  l2 : p.n2 = p.cmds.length
  s1 : p.n1 ≤ 1000
  s2 : p.n2 ≤ 1000
  r1 : NV w p.A1 p.vars
  r2 : NM w p.A2 p.cmds
theorem PLp.below {w w' : World} {p : PN} (h : PLp w p) (k : Below w.heap.size w w') : PLp w' p := ⟨h.l1, h.l2, h.s1, h.s2, h.r1.below k, h.r2.below k⟩
/-- A slice of processes at address A, whole. -/
def PSp (w : World) (A : Option Addr) (l : List PN) : Prop :=
  0 < l.length → ∃ b off, A = some ⟨b, off, none⟩ ∧ b < w.heap.size ∧ ∀ i, i < l.length → w.cell? ⟨b, off + i * 5, none⟩ = some (.string (l.getD i default).name) ∧ (∃ x y : Int, w.cell? ⟨b, off + i * 5 + 1, none⟩ = some (.int .i64 x) ∧ w.cell? ⟨b, off + i * 5 + 2, none⟩ = some (.int .i64 y)) ∧
    w.cell? ⟨b, off + i * 5 + 3, none⟩ = some (.slice (l.getD i default).A1 (l.getD i default).n1 (l.getD i default).c1) ∧ w.cell? ⟨b, off + i * 5 + 4, none⟩ = some (.slice (l.getD i default).A2 (l.getD i default).n2 (l.getD i default).c2) ∧ PLp w (l.getD i default)
theorem PSp.below {w w' : World} {A : Option Addr} {l : List PN} (h : PSp w A l) (k : Below w.heap.size w w') : PSp w' A l := fun hn => by
  obtain ⟨b, off, e, hb, hc⟩ := h hn
  refine ⟨b, off, e, Nat.lt_of_lt_of_le hb k.size, fun i hi => ?_⟩
  obtain ⟨h0, ⟨x, y, h4, h5⟩, h1, h2, h3⟩ := hc i hi
  exact ⟨(k.cell (p := ⟨b, off + i * 5, none⟩) hb).trans h0, ⟨x, y, (k.cell (p := ⟨b, off + i * 5 + 1, none⟩) hb).trans h4, (k.cell (p := ⟨b, off + i * 5 + 2, none⟩) hb).trans h5⟩, (k.cell (p := ⟨b, off + i * 5 + 3, none⟩) hb).trans h1, (k.cell (p := ⟨b, off + i * 5 + 4, none⟩) hb).trans h2, h3.below k⟩
/-- A model lies there, whole. -/
structure MP (w : World) (X : MdX) (M : Md) : Prop where
  l1 : X.n1 = M.scs.length
  l2 : X.n2 = M.vars.length
  l3 : X.n3 = M.chans.length
  l4 : X.n4 = M.procs.length
  l5 : X.n5 = M.props.length
  s1 : X.n1 ≤ 1000
  s2 : X.n2 ≤ 1000
  s3 : X.n3 ≤ 1000
  s4 : X.n4 ≤ 1000
  s5 : X.n5 ≤ 1000
  r1 : NA w X.a1 M.scs
  r2 : NV w X.a2 M.vars
  r3 : NC w X.a3 M.chans
  r4 : PSp w X.a4 M.procs
  r5 : NR w X.a5 M.props
theorem MP.below {w w' : World} {X : MdX} {M : Md} (h : MP w X M) (k : Below w.heap.size w w') : MP w' X M :=
  ⟨h.l1, h.l2, h.l3, h.l4, h.l5, h.s1, h.s2, h.s3, h.s4, h.s5, h.r1.below k, h.r2.below k, h.r3.below k, h.r4.below k, h.r5.below k⟩
theorem MP.mr {w : World} {X : MdX} {M : Md} (h : MP w X M) : MR w X M :=
  ⟨h.l1, h.l2, h.l3, h.l4, h.l5, h.s1, h.s2, h.s3, h.s4, h.s5, h.r1.ns, h.r2.ns, h.r3.ns, fun hn => by
    obtain ⟨b, off, e, hb, hc⟩ := h.r4 hn
    refine ⟨b, off, e, hb, fun i hi => ?_⟩
    obtain ⟨h0, _, h1, h2, h3⟩ := hc i hi
    exact ⟨h0, h1, h2, h3.l1, h3.l2, h3.s1, h3.s2, h3.r1.ns, h3.r2.ns⟩, h.r5.ns⟩

/-- A row of text slices of the call's own, each in memory of its own, from block base on. -/
structure OT (base : Nat) (w : World) (v : Value) (VL : List (List ByteArray)) : Prop where
  own : ∃ cs, w.ownsRow base 47 1 v VL.length cs ∧ ∀ i, i < VL.length → ∃ b n c, cs[i]? = some (.slice (some ⟨b, 0, none⟩) n c) ∧ n = (VL.getD i []).length ∧ TA w (some ⟨b, 0, none⟩) (VL.getD i []) ∧ base ≤ b ∧ v.ownBlock ≠ some b ∧ b < w.heap.size
theorem OT.below {base : Nat} {w w' : World} {v : Value} {VL : List (List ByteArray)} (h : OT base w v VL) (k : Below w.heap.size w w') : OT base w' v VL := by
  obtain ⟨cs, ho, hr⟩ := h.own
  refine ⟨cs, ?_, fun i hi => ?_⟩
  · obtain ⟨h1, h2⟩ := ho
    refine ⟨h1, ?_⟩
    rcases h2 with h2 | ⟨g, cap, cur, e, hb, hg, r⟩
    · exact .inl h2
    · exact .inr ⟨g, cap, cur, e, hb, (k.block g (Array.getElem?_eq_some_iff.1 hg).1).trans hg, r⟩
  · obtain ⟨b, n, c, e, hl, ht, h1, h2, h3⟩ := hr i hi
    exact ⟨b, n, c, e, hl, ht.below k, h1, h2, Nat.lt_of_lt_of_le h3 k.size⟩
theorem OT.tt {base : Nat} {w : World} {v : Value} {VL : List (List ByteArray)} (h : OT base w v VL) : ∃ A c, v = .slice A VL.length c ∧ TT w A VL := by
  obtain ⟨cs, ho, hr⟩ := h.own
  rcases ho.2 with ⟨e, h0⟩ | ⟨g, cap, cur, e, hb, hg, h1, h2, h3, h4⟩
  · exact ⟨none, 0, by rw [e, h0], fun hn => by omega⟩
  · refine ⟨_, cap, e, fun hn => ⟨g, 0, rfl, (Array.getElem?_eq_some_iff.1 hg).1, fun i hi => ?_⟩⟩
    obtain ⟨b, n, c, ec, hl, ht, _⟩ := hr i hi
    subst e
    refine ⟨b, n, c, ?_, hl, ht⟩
    rw [Nat.zero_add, World.ownsRow.cellAt ho i (by omega)]
    exact ec
/-- What a text slice needs to be taken into such a row. -/
def RowT (base : Nat) (w : World) (b n : Nat) (l : List ByteArray) : Prop := n = l.length ∧ TA w (some ⟨b, 0, none⟩) l ∧ base ≤ b ∧ b < w.heap.size
theorem RowT.below {base : Nat} {w w' : World} {b n : Nat} {l : List ByteArray} (h : RowT base w b n l) (k : Below w.heap.size w w') : RowT base w' b n l := ⟨h.1, h.2.1.below k, h.2.2.1, Nat.lt_of_lt_of_le h.2.2.2 k.size⟩
theorem get3 {α : Type} {a b c u : α} : ∀ {i : Nat}, [a, b, c][i]? = some u → (i = 0 ∧ a = u) ∨ (i = 1 ∧ b = u) ∨ (i = 2 ∧ c = u)
  | 0, h => .inl ⟨rfl, Option.some.inj h⟩
  | 1, h => .inr (.inl ⟨rfl, Option.some.inj h⟩)
  | 2, h => .inr (.inr ⟨rfl, Option.some.inj h⟩)
  | _ + 3, h => by cases h
/-- Three text slices in a new row. -/
theorem OT.three {base : Nat} {w : World} {b1 n1 c1 b2 n2 c2 b3 n3 c3 : Nat} {l1 l2 l3 : List ByteArray} (h1 : RowT base w b1 n1 l1) (h2 : RowT base w b2 n2 l2) (h3 : RowT base w b3 n3 l3) (hb : base ≤ w.heap.size) :
    OT base (w.alloc (.cells #[.slice (some ⟨b1, 0, none⟩) n1 c1, .slice (some ⟨b2, 0, none⟩) n2 c2, .slice (some ⟨b3, 0, none⟩) n3 c3] 47)) (.slice (some ⟨w.heap.size, 0, none⟩) 3 3) [l1, l2, l3] := by
  have k := below_alloc1 w (.cells #[.slice (some ⟨b1, 0, none⟩) n1 c1, .slice (some ⟨b2, 0, none⟩) n2 c2, .slice (some ⟨b3, 0, none⟩) n3 c3] 47)
  refine ⟨_, World.ownsRow_lit w #[.slice (some ⟨b1, 0, none⟩) n1 c1, .slice (some ⟨b2, 0, none⟩) n2 c2, .slice (some ⟨b3, 0, none⟩) n3 c3] 3 hb (by decide) rfl, fun i hi => ?_⟩
  have hi : i < 3 := hi
  have ne : ∀ b, b < w.heap.size → (Value.slice (some ⟨w.heap.size, 0, none⟩) 3 3).ownBlock ≠ some b := fun b hb e => by
    injection e with e
    have : w.heap.size = b := e
    omega
  rcases i with _|_|_|i
  · exact ⟨b1, n1, c1, rfl, h1.1, h1.2.1.below k, h1.2.2.1, ne _ h1.2.2.2, Nat.lt_of_lt_of_le h1.2.2.2 k.size⟩
  · exact ⟨b2, n2, c2, rfl, h2.1, h2.2.1.below k, h2.2.2.1, ne _ h2.2.2.2, Nat.lt_of_lt_of_le h2.2.2.2 k.size⟩
  · exact ⟨b3, n3, c3, rfl, h3.1, h3.2.1.below k, h3.2.2.1, ne _ h3.2.2.2, Nat.lt_of_lt_of_le h3.2.2.2 k.size⟩
  · omega
end Go.Proofs.YtodloljpfbkkjaaRRRR.nms
