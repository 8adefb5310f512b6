/- Names: rows of texts of the call's own; what the names of a model are, as they lie. -/
import Derived.Test.YtodloljpfbkkjaaRRRRBase
import Derived.Deep.AppendLies
import Derived.RangeFuncRecord
import Derived.Deep.Cut
import Derived.Lib.SmallJoins
namespace Go.Proofs.YtodloljpfbkkjaaRRRR.nms
open Go.ChangeShapes Go.WideShapes Go.ChangeAt Go.RowKit Go.Deep Go.Joins

theorem below_alloc1 (w : World) (o : Obj) : Below w.heap.size w (w.alloc o) := (Below.refl _ _).alloc (Nat.le_refl _) _
theorem bthen {a b c : World} (h : Below a.heap.size a b) (k : Below b.heap.size b c) : Below a.heap.size a c := h.trans (k.mono h.size)
/-- A row of texts of the call's own. -/
def OS (base : Nat) (w : World) (v : Value) (l : List ByteArray) : Prop := w.ownsRow base 9 1 v l.length (l.map Value.string)
/-- A slice of texts at address A (nil let in) reads as l. -/
def TA (w : World) (A : Option Addr) (l : List ByteArray) : Prop :=
  0 < l.length → ∃ b off, A = some ⟨b, off, none⟩ ∧ b < w.heap.size ∧ ∀ i, i < l.length → w.cell? ⟨b, off + i, none⟩ = some (.string (l.getD i default))
theorem TA.below {w w' : World} {A : Option Addr} {l : List ByteArray} (h : TA w A l) (hk : Below w.heap.size w w') : TA w' A l := fun hn => by
  obtain ⟨b, off, e, hb, hc⟩ := h hn
  exact ⟨b, off, e, Nat.lt_of_lt_of_le hb hk.size, fun i hi => (hk.cell (p := ⟨b, off + i, none⟩) hb).trans (hc i hi)⟩
theorem OS.nil (base : Nat) (w : World) : OS base w (.slice none 0 0) [] := World.ownsRow_nil _ _ _ _
theorem OS.form {base : Nat} {w : World} {v : Value} {l : List ByteArray} (h : OS base w v l) : ∃ A c, v = .slice A l.length c ∧ TA w A l := by
  have h' : w.ownsRow base 9 1 v l.length (l.map Value.string) := h
  rcases ownsRow_forms h' with ⟨rfl, h0⟩ | ⟨g, cap, rfl⟩
  · exact ⟨none, 0, by rw [h0], fun hn => absurd hn (by omega)⟩
  · refine ⟨_, cap, rfl, fun hn => ⟨g, 0, rfl, (h'.lt g rfl).2, fun i hi => ?_⟩⟩
    rw [Nat.zero_add, h'.cellAt i (by omega)]
    simp [List.getD, hi]
/-- append of one text onto a row of the call's own. -/
theorem append_txt {w : World} {ops : Array Oper} {rest : List Oper} {o : Oper} {a : Act} {Q : Exit → Act → World → Prop} (hgd : o.guard = none) (s x : Operand)
    (ho : o.op = .call { callee := .builtin .append, args := #[s, x], argTypes := #[47, 47] })
    (base : Nat) (v : Value) (l : List ByteArray) (hs : a.eval s = v) (hown : OS base w v l) (z : ByteArray)
    (hx : a.eval x = .slice (some ⟨w.heap.size, 0, none⟩) 1 1)
    (hlen : l.length ≤ 100000) (hbase : base ≤ w.heap.size) (n : Nat) (hn : l.length + 1 = n)
    (h : ∀ A' c' w', OS base w' (.slice A' n c') (l ++ [z]) → Below base w w' → wpList Try.prog ops Q rest (a.put o.dst (.slice A' n c')) w') :
    wpList Try.prog ops Q (o :: rest) a (w.alloc (.cells #[.string z] 9)) := by
  obtain ⟨i0, hi, hz0, hz1, hz2⟩ := info_parts (show (Try.prog.info? 9).map (fun i => (i.zero, i.size, i.bytes)) = some (some (.string ⟨#[]⟩), 1, 16) by kernel_rfl)
  refine wpList_append_own_at _ hgd s x 47 ho base 9 i0 (.string ⟨#[]⟩) 1 16 Try.underlying47 hi hz0 hz1 hz2 rfl (by decide) v l.length _ hs (World.ownsRow.alloc hown _) ⟨w.heap.size, 0, none⟩ 1 1 [.string z] hx rfl (cell_one_new _ _ _) (by simp [Value.oneCell']) (by unfold maxLen; omega) (by omega) (by simp; omega) ?_
  intro v' w' hown' hgrow _ hb
  have h2 : OS base w' v' (l ++ [z]) := by
    unfold OS
    rw [List.length_append, List.map_append]
    exact hown'
  obtain ⟨A', c', rfl, _⟩ := h2.form
  rw [List.length_append, List.length_singleton, hn] at h2 ⊢
  exact h A' c' w' h2 (Below.grown ((Below.refl _ _).alloc hbase _) hgrow (by simp; omega) (fun k hk => (World.ownsRow.lt hown k hk).1))

/-- A slice of structs of sz cells, the first of each a text, at address A (nil let in): the texts are l. -/
def NS (sz : Nat) (w : World) (A : Option Addr) (l : List ByteArray) : Prop :=
  0 < l.length → ∃ b off, A = some ⟨b, off, none⟩ ∧ b < w.heap.size ∧ ∀ i, i < l.length → w.cell? ⟨b, off + i * sz, none⟩ = some (.string (l.getD i default))
theorem NS.below {sz : Nat} {w w' : World} {A : Option Addr} {l : List ByteArray} (h : NS sz w A l) (hk : Below w.heap.size w w') : NS sz w' A l := fun hn => by
  obtain ⟨b, off, e, hb, hc⟩ := h hn
  exact ⟨b, off, e, Nat.lt_of_lt_of_le hb hk.size, fun i hi => (hk.cell (p := ⟨b, off + i * sz, none⟩) hb).trans (hc i hi)⟩
/-- A process: its name, and those of its variables and commands, as they lie. -/
structure PN where
  name : ByteArray
  (A1 : Option Addr)
  (n1 c1 : Nat)
  (A2 : Option Addr)
  (n2 c2 : Nat)
  vars : List ByteArray
  cmds : List ByteArray
instance : Inhabited PN := ⟨⟨⟨#[]⟩, none, 0, 0, none, 0, 0, [], []⟩⟩
def PN.all (p : PN) : List ByteArray := p.name :: (p.vars ++ p.cmds)
structure PL (w : World) (p : PN) : Prop where
  l1 : p.n1 = p.vars.length
  l2 : p.n2 = p.cmds.length
  s1 : p.n1 ≤ 1000
  s2 : p.n2 ≤ 1000
  r1 : NS 6 w p.A1 p.vars
  r2 : NS 6 w p.A2 p.cmds
theorem PL.below {w w' : World} {p : PN} (h : PL w p) (k : Below w.heap.size w w') : PL w' p := ⟨h.l1, h.l2, h.s1, h.s2, h.r1.below k, h.r2.below k⟩
/-- A slice of processes at address A. -/
def PS (w : World) (A : Option Addr) (l : List PN) : Prop :=
  0 < l.length → ∃ b off, A = some ⟨b, off, none⟩ ∧ b < w.heap.size ∧ ∀ i, i < l.length → w.cell? ⟨b, off + i * 5, none⟩ = some (.string (l.getD i default).name) ∧ w.cell? ⟨b, off + i * 5 + 3, none⟩ = some (.slice (l.getD i default).A1 (l.getD i default).n1 (l.getD i default).c1) ∧ w.cell? ⟨b, off + i * 5 + 4, none⟩ = some (.slice (l.getD i default).A2 (l.getD i default).n2 (l.getD i default).c2) ∧ PL w (l.getD i default)
theorem PS.below {w w' : World} {A : Option Addr} {l : List PN} (h : PS w A l) (k : Below w.heap.size w w') : PS w' A l := fun hn => by
  obtain ⟨b, off, e, hb, hc⟩ := h hn
  refine ⟨b, off, e, Nat.lt_of_lt_of_le hb k.size, fun i hi => ?_⟩
  obtain ⟨h0, h1, h2, h3⟩ := hc i hi
  exact ⟨(k.cell (p := ⟨b, off + i * 5, none⟩) hb).trans h0, (k.cell (p := ⟨b, off + i * 5 + 3, none⟩) hb).trans h1, (k.cell (p := ⟨b, off + i * 5 + 4, none⟩) hb).trans h2, h3.below k⟩
/-- A model as it lies, and its names. -/
structure MdX where
  (a1 a2 a3 a4 a5 : Option Addr)
  (n1 c1 n2 c2 n3 c3 n4 c4 n5 c5 : Nat)
@[reducible] def MdX.v (X : MdX) : Value := .agg #[.slice X.a1 X.n1 X.c1, .slice X.a2 X.n2 X.c2, .slice X.a3 X.n3 X.c3, .slice X.a4 X.n4 X.c4, .slice X.a5 X.n5 X.c5]
structure Md where
  scs : List ByteArray
  vars : List ByteArray
  chans : List ByteArray
  procs : List PN
  props : List ByteArray
/-- All names, in order. -/
def Md.all (M : Md) : List ByteArray := M.scs ++ (M.vars ++ (M.chans ++ (M.procs.flatMap PN.all ++ M.props)))
structure MR (w : World) (X : MdX) (M : Md) : Prop where
  l1 : X.n1 = M.scs.length
  l2 : X.n2 = M.vars.length
  l3 : X.n3 = M.chans.length
  l4 : X.n4 = M.procs.length
  l5 : X.n5 = M.props.length
  s1 : X.n1 ≤ 1000
  s2 : X.n2 ≤ 1000
  s3 : X.n3 ≤ 1000
  s4 : X.n4 ≤ 1000
  s5 : X.n5 ≤ 1000
  r1 : NS 2 w X.a1 M.scs
  r2 : NS 6 w X.a2 M.vars
  r3 : NS 6 w X.a3 M.chans
  r4 : PS w X.a4 M.procs
  r5 : NS 2 w X.a5 M.props
theorem MR.below {w w' : World} {X : MdX} {M : Md} (h : MR w X M) (k : Below w.heap.size w w') : MR w' X M :=
  ⟨h.l1, h.l2, h.l3, h.l4, h.l5, h.s1, h.s2, h.s3, h.s4, h.s5, h.r1.below k, h.r2.below k, h.r3.below k, h.r4.below k, h.r5.below k⟩
/-- A model in a box. -/
def BM (w : World) (b : Nat) (X : MdX) : Prop := (w.cell? ⟨b, 0, none⟩ = some (.slice X.a1 X.n1 X.c1) ∧ w.cell? ⟨b, 1, none⟩ = some (.slice X.a2 X.n2 X.c2) ∧ w.cell? ⟨b, 2, none⟩ = some (.slice X.a3 X.n3 X.c3) ∧
  w.cell? ⟨b, 3, none⟩ = some (.slice X.a4 X.n4 X.c4) ∧ w.cell? ⟨b, 4, none⟩ = some (.slice X.a5 X.n5 X.c5)) ∧ b < w.heap.size
theorem BM.new (w : World) (X : MdX) (t : TypeId) : BM (w.alloc (.cells #[.slice X.a1 X.n1 X.c1, .slice X.a2 X.n2 X.c2, .slice X.a3 X.n3 X.c3, .slice X.a4 X.n4 X.c4, .slice X.a5 X.n5 X.c5] t)) w.heap.size X :=
  ⟨⟨World.cell?_alloc_at _ _ _ _ rfl, World.cell?_alloc_at _ _ _ _ rfl, World.cell?_alloc_at _ _ _ _ rfl, World.cell?_alloc_at _ _ _ _ rfl, World.cell?_alloc_at _ _ _ _ rfl⟩, by simp⟩
theorem BM.below {w w' : World} {b : Nat} {X : MdX} (h : BM w b X) (k : Below w.heap.size w w') : BM w' b X := by
  obtain ⟨⟨c0, c1, c2, c3, c4⟩, hb⟩ := h
  exact ⟨⟨(k.cell (p := ⟨b, 0, none⟩) hb).trans c0, (k.cell (p := ⟨b, 1, none⟩) hb).trans c1, (k.cell (p := ⟨b, 2, none⟩) hb).trans c2, (k.cell (p := ⟨b, 3, none⟩) hb).trans c3, (k.cell (p := ⟨b, 4, none⟩) hb).trans c4⟩, Nat.lt_of_lt_of_le hb k.size⟩
theorem take_snoc {l : List ByteArray} {k : Nat} (h : k < l.length) : l.take (k + 1) = l.take k ++ [l.getD k default] := by
  rw [List.take_add_one]
  simp [List.getD, h]
theorem flat_take_snoc {f : PN → List ByteArray} {l : List PN} {k : Nat} (h : k < l.length) : (l.take (k + 1)).flatMap f = (l.take k).flatMap f ++ f (l.getD k default) := by
  rw [List.take_add_one, List.flatMap_append]
  simp [List.getD, h]
theorem flat_take_le {f : PN → List ByteArray} {l : List PN} {k : Nat} (h : k < l.length) : ((l.take k).flatMap f).length + (f (l.getD k default)).length ≤ (l.flatMap f).length := by
  rw [← List.length_append, ← flat_take_snoc h]
  conv => rhs; rw [← List.take_append_drop (k + 1) l, List.flatMap_append, List.length_append]
  omega
end Go.Proofs.YtodloljpfbkkjaaRRRR.nms
