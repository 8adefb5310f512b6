/- Contracts that the claim stands on, several texts in one: OpensP, IntRows, StructRows, LtlLeft. -/
import Derived.Deep.SlicePairs
import Derived.Maps.AppendAt
import Derived.Deep.AppendLies
import Derived.Laws.OwnMore
import Derived.Laws.AppendOwnNone
import Derived.Deep.RegionHeld3
import Derived.Deep.Cut
import Derived.Lib.SmallJoins
import Derived.RangeFuncRecord
import Derived.Lib.AppendZeros
import Derived.Test.YtgnflnfajkoibaaDoorPut1
import Derived.Test.YtgnflnfajkoibaaDoorPut2
namespace Go.Proofs.YtgnflnfajkoibaaDoor
open Go.ChangeShapes Go.WideShapes Go.ChangeAt Go.RowKit Go.Deep

/-- A slice of pairs of ints at address A (nil let in) reads as zs. -/
def PA (w : World) (A : Option Addr) (zs : List (Int × Int)) : Prop :=
  0 < zs.length → ∃ b off, A = some ⟨b, off, none⟩ ∧ b < w.heap.size ∧ ∀ i, i < zs.length → w.cell? ⟨b, off + i * 2, none⟩ = some (.int .i64 (zs.getD i (0, 0)).1) ∧ w.cell? ⟨b, off + i * 2 + 1, none⟩ = some (.int .i64 (zs.getD i (0, 0)).2)
/-- The number of a value. -/
def numV : Value → Int
  | .int _ z => z
  | _ => 0
set_option maxRecDepth 100000 in
theorem open_pairs_arg {H : Type} {enc : TypeId × Value → H} {W : World} {base : Nat} {v : Value} {d : DataW H} {ps : List MemPlace} {t e : TypeId} {f0 f1 : Field} (ht : Tryd.prog.underlying t = some (.slice e)) (he : Tryd.prog.underlying e = some (.struct #[f0, f1]))
    (ce : Tryd.prog.cellsOf e = 2) (be : Tryd.prog.bytesOf e = 16) (o0 : f0.offset = 0) (o1 : f1.offset = 1) (t0 : f0.type = 3) (t1 : f1.type = 3) (hv : Value.okWide Tryd.prog W .any base t v)
    (h : DataW.Trod enc Tryd.prog W 0 (fun _ => true) true t v d ps) {ts : List TypeId} {ds : List (DataW H)} (hsz : (DataW.weightsEach Tryd.prog ts ds).all (· ≤ reachBytes) = true) (j : Nat) (htj : ts[j]? = some t) (hdj : ds[j]? = some d) :
    ∃ (A : Option Addr) (c : Nat) (zs : List (Int × Int)), v = .slice A zs.length c ∧ 16 * zs.length ≤ 140737488355328 ∧ zs.length ≤ c ∧ c ≤ maxLen ∧ PA W A zs ∧ ∀ z ∈ zs, (Lit.int .i64 z.1).wf = true ∧ (Lit.int .i64 z.2).wf = true := by
  obtain ⟨a0, len, cap, rfl⟩ := okWide_slice ht hv
  obtain ⟨fuel, hf⟩ := h
  rcases open_slice_pairs ht he ce o0 o1 (by rw [t0]; exact Tryd.cells3) (by rw [t1]; exact Tryd.cells3) hf with ⟨hcs, hx⟩ | ⟨a, len', cap', m, n, V0, V1, D0, D1, P0, P1, hcs, _, hl, hm, hmm, hx, hcell⟩
  · simp [Value.cells] at hcs
    obtain ⟨rfl, rfl, rfl⟩ := hcs
    exact ⟨none, 0, [], rfl, by simp, Nat.le_refl _, Nat.zero_le _, fun h => absurd h (by simp), fun z hz => by simp at hz⟩
  · simp [Value.cells] at hcs
    obtain ⟨rfl, rfl, rfl⟩ := hcs
    simp only [Prod.mk.injEq] at hx
    obtain ⟨rfl, rfl⟩ := hx
    simp only [if_true] at hmm
    subst hmm
    have hs := sized_slice hsz htj hdj ht
    rw [be] at hs
    have hrb := reachBytes_lt
    simp only [List.length_map, List.length_range] at hs
    have hval : ∀ i, i < len → V0 i = .int .i64 (numV (V0 i)) ∧ V1 i = .int .i64 (numV (V1 i)) ∧ (Lit.int .i64 (numV (V0 i))).wf = true ∧ (Lit.int .i64 (numV (V1 i))).wf = true := fun i hi => by
      obtain ⟨_, _, g0, g1⟩ := hcell i (by omega)
      rw [t0] at g0
      rw [t1] at g1
      obtain ⟨z0, e0, _, w0⟩ := DataW.trod_int Tryd.underlying3 g0
      obtain ⟨z1, e1, _, w1⟩ := DataW.trod_int Tryd.underlying3 g1
      injection e0 with e0
      injection e1 with e1
      rw [e0, e1]
      exact ⟨rfl, rfl, w0, w1⟩
    refine ⟨some a, m, (List.range len).map fun i => (numV (V0 i), numV (V1 i)), by simp, by simp; omega, by simp; omega, hm, ?_, ?_⟩
    · intro h0
      simp only [List.length_map, List.length_range] at h0
      obtain ⟨b, off, spot⟩ := a
      have g0 := (hcell 0 (by omega)).1
      have hspot : spot = none := by simpa [Addr.add] using World.cell?_spot g0
      subst hspot
      refine ⟨b, off, rfl, ?_, fun i hi => ?_⟩
      · rw [add_plain] at g0
        rcases Nat.lt_or_ge b W.heap.size with hlt | hge
        · exact hlt
        · simp [World.cell?, Array.getElem?_eq_none hge] at g0
      · simp only [List.length_map, List.length_range] at hi
        obtain ⟨g1, g2, _, _⟩ := hcell i (by omega)
        obtain ⟨e1, e2, _, _⟩ := hval i hi
        rw [add_plain] at g1 g2
        rw [show off + i * 2 + 1 = off + (i * 2 + 1) by omega, g1, g2, e1, e2]
        simp [List.getD, hi, numV]
    · intro z hz
      obtain ⟨i, hi, rfl⟩ := List.mem_map.1 hz
      have hi2 := List.mem_range.1 hi
      obtain ⟨_, _, w0, w1⟩ := hval i hi2
      exact ⟨w0, w1⟩
end Go.Proofs.YtgnflnfajkoibaaDoor
namespace Go.Proofs.YtgnflnfajkoibaaDoor
open Go.ChangeShapes Go.WideShapes Go.ChangeAt Go.RowKit

theorem Tryd.info3 : (Tryd.prog.info? 3).map (fun i => (i.zero, i.size, i.bytes)) = some (some (.int .i64 0), 1, 8) := by kernel_rfl
theorem IA.at_ {w : World} {A : Option Addr} {l : List Int} (h : IA w A l) {i : Nat} (hi : i < l.length) : ∃ b off, A = some ⟨b, off, none⟩ ∧ b < w.heap.size ∧ w.cell? ⟨b, off + i, none⟩ = some (.int .i64 (l.getD i 0)) := by
  obtain ⟨b, off, e, hb, hc⟩ := h (by omega)
  exact ⟨b, off, e, hb, hc i hi⟩

/-- A slice of ints with its capacity. -/
structure InS (w : World) (A : Option Addr) (c : Nat) (l : List Int) : Prop where
  ia : IA w A l
  le : l.length ≤ c
  max : c ≤ maxLen
  non : A = none → c = 0
/-- What a call leaves that hands back a list. -/
def RowP (w : World) (L : List Int) (e : Ending) (w' : World) : Prop := ∃ A c, e = .returned (.slice A L.length c) ∧ InS w' A c L ∧ Below w.heap.size w w'
theorem RowP.nil {w w' : World} {L : List Int} (h : L = []) (hb : Below w.heap.size w w') : RowP w L (.returned (.slice none 0 0)) w' := by
  subst h
  exact ⟨none, 0, rfl, ⟨IA.nil _ _, Nat.le_refl _, Nat.zero_le _, fun _ => rfl⟩, hb⟩
theorem RowP.made {w w' : World} {L : List Int} {b m : Nat} {t : TypeId} {f : Nat → Value} (hm : m = L.length) (hl : m ≤ 1000000) (hr : w'.rowIs b t m f) (hf : ∀ i, i < m → f i = .int .i64 (L.getD i 0)) (hb : Below w.heap.size w w') :
    RowP w L (.returned (.slice (some ⟨b, 0, none⟩) m m)) w' := by
  subst hm
  refine ⟨_, _, rfl, ⟨fun _ => ⟨b, 0, rfl, hr.lt, fun i hi => ?_⟩, Nat.le_refl _, by unfold maxLen; omega, fun h => by cases h⟩, hb⟩
  have := hr.cell (i := i) hi
  rw [Nat.zero_add, this, hf i hi]

/-- The first k of L, then nothing. -/
def fst (L : List Int) (k j : Nat) : Value := .int .i64 (if j < k then L.getD j 0 else 0)
theorem fst_full {L : List Int} {m : Nat} (i : Nat) (hi : i < m) : fst L m i = .int .i64 (L.getD i 0) := by unfold fst; rw [if_pos hi]

theorem fst_step {L : List Int} {k m : Nat} {x : Int} {w : World} {b : Nat} {t : TypeId} (hr : w.rowIs b t m (fst L k)) (hx : x = L.getD k 0) : (w.setCell ⟨b, k, none⟩ (.int .i64 x)).rowIs b t m (fst L (k + 1)) :=
  (hr.set k _).congr (fun j hj => by
    by_cases hjk : j = k
    · subst hjk; simp only [if_pos, fst]; rw [if_pos (by omega), hx]
    · simp only [if_neg hjk, fst]
      congr 1
      by_cases h2 : j < k
      · rw [if_pos h2, if_pos (by omega)]
      · rw [if_neg h2, if_neg (by omega)])

/-- The slice v is a row of ints of the call's own, from block base on. -/
def OI (base : Nat) (w : World) (v : Value) (l : List Int) : Prop := w.ownsRow base 3 1 v l.length (l.map (Value.int .i64))
theorem OI.form {base : Nat} {w : World} {v : Value} {l : List Int} (h : OI base w v l) : ∃ A c, v = .slice A l.length c ∧ IA w A l := by
  rcases h.2 with ⟨rfl, h0⟩ | ⟨g, cap, cur, rfl, _⟩
  · exact ⟨none, 0, by rw [h0], fun hn => by omega⟩
  · refine ⟨_, cap, rfl, fun hn => ?_⟩
    obtain ⟨g', cap', e, _, hlt⟩ := World.ownsRow.form h hn
    injection e with e1 e2 e3
    injection e1 with e1
    injection e1 with e1
    subst e1
    refine ⟨g, 0, rfl, hlt, fun i hi => ?_⟩
    have := World.ownsRow.cellAt h i (by omega)
    rw [Nat.zero_add, this]
    simp [List.getD, hi]
theorem oi_snoc {base : Nat} {w : World} {v : Value} {l : List Int} {x : Int} (h : w.ownsRow base 3 1 v (l.length + 1) (l.map (Value.int .i64) ++ [.int .i64 x])) : OI base w v (l ++ [x]) := by
  unfold OI
  rw [List.length_append, List.map_append]
  exact h
theorem OI.nil (base : Nat) (w : World) : OI base w (.slice none 0 0) [] := World.ownsRow_nil _ _ _ _
theorem OI.ins {base : Nat} {w : World} {v : Value} {l : List Int} (h : OI base w v l) : ∃ A c, v = .slice A l.length c ∧ InS w A c l ∧ ∀ a, A = some a → base ≤ a.block ∧ a.block < w.heap.size := by
  have hb := World.ownsRow.lt h
  obtain ⟨A, c, e, i⟩ := h.form
  subst e
  refine ⟨A, c, rfl, ?_, fun a e => hb a.block (by rw [e]; rfl)⟩
  rcases h.2 with ⟨e2, h0⟩ | ⟨g2, cap, cur, e2, _, _, h1, h2, _⟩
  · injection e2 with e3 e4 e5
    subst e5
    exact ⟨i, by omega, by unfold maxLen; omega, fun _ => rfl⟩
  · injection e2 with e3 e4 e5
    subst e5
    exact ⟨i, h1, h2, fun e => by rw [e] at e3; cases e3⟩
theorem OI.row {w w' : World} {v : Value} {l : List Int} (h : OI w.heap.size w' v l) (hb : Below w.heap.size w w') : RowP w l (.returned v) w' := by
  obtain ⟨A, c, rfl, hi, _⟩ := h.ins
  exact ⟨A, c, rfl, hi, hb⟩

/-- append of one int onto a row of the call's own. -/
theorem append_one {w : World} {ops : Array Oper} {rest : List Oper} {o : Oper} {a : Act} {Q : Exit → Act → World → Prop} (hgd : o.guard = none) (s x : Operand)
    (ho : o.op = .call { callee := .builtin .append, args := #[s, x], argTypes := #[37, 37] })
    (base : Nat) (v : Value) (l : List Int) (hs : a.eval s = v) (hown : OI base w v l) (z : Int)
    (hx : a.eval x = .slice (some ⟨w.heap.size, 0, none⟩) 1 1)
    (hlen : l.length + 1 ≤ 1000000) (hbase : base ≤ w.heap.size)
    (h : ∀ v' w', OI base w' v' (l ++ [z]) → Below base w w' → wpList Tryd.prog ops Q rest (a.put o.dst v') w') :
    wpList Tryd.prog ops Q (o :: rest) a (w.alloc (.cells #[.int .i64 z] 3)) := by
  obtain ⟨i0, hi, hz0, hz1, hz2⟩ := info_parts Tryd.info3
  refine wpList_append_own_at _ hgd s x 37 ho base 3 i0 (.int .i64 0) 1 8 Tryd.underlying37 hi hz0 hz1 hz2 rfl (by decide) v l.length _ hs (hown.alloc _) ⟨w.heap.size, 0, none⟩ 1 1 [.int .i64 z] hx rfl (cell_one_new _ _ _) (by simp [Value.oneCell']) (by unfold maxLen; omega) (by omega) (by simp; omega) ?_
  intro v' w' hown' hgrow _ hb
  exact h v' w' (oi_snoc hown') (Below.grown ((Below.refl _ _).alloc hbase _) hgrow (by simp; omega) (fun k hk => (hown.lt k hk).1))

set_option maxRecDepth 20000 in
/-- append of what a slice reads as onto a row of the call's own. -/
theorem append_list {w : World} {ops : Array Oper} {rest : List Oper} {o : Oper} {a : Act} {Q : Exit → Act → World → Prop} (hgd : o.guard = none) (s x : Operand)
    (ho : o.op = .call { callee := .builtin .append, args := #[s, x], argTypes := #[37, 37] })
    (base : Nat) (v : Value) (l : List Int) (hs : a.eval s = v) (hown : OI base w v l) (A : Option Addr) (m c : Nat) (l2 : List Int) (hm : m = l2.length)
    (hx : a.eval x = .slice A m c) (hA : IA w A l2) (hN : A = none → c = 0) (hlen : l.length + l2.length ≤ 1000000) (hbase : base ≤ w.heap.size)
    (h : ∀ v' w', OI base w' v' (l ++ l2) → Below base w w' → wpList Tryd.prog ops Q rest (a.put o.dst v') w') :
    wpList Tryd.prog ops Q (o :: rest) a w := by
  obtain ⟨i0, hi, hz0, hz1, hz2⟩ := info_parts Tryd.info3
  subst hm
  cases A with
  | none =>
    have h0 : l2 = [] := by
      rcases Nat.eq_zero_or_pos l2.length with h | h
      · exact List.eq_nil_of_length_eq_zero h
      · obtain ⟨b, o, e, _⟩ := hA h
        cases e
    subst h0
    rw [hN rfl] at hx
    refine wpList_append_own_none hgd s x 37 ho base 3 i0 1 Tryd.underlying37 hi v l.length _ hs hown hx (h v w ?_ (Below.refl _ _))
    rw [List.append_nil]
    exact hown
  | some ad =>
    refine wpList_append_own_at _ hgd s x 37 ho base 3 i0 (.int .i64 0) 1 8 Tryd.underlying37 hi hz0 hz1 hz2 rfl (by decide) v l.length _ hs hown ad l2.length c (l2.map (Value.int .i64)) hx (by simp) (fun j u hu => ?_) (fun u hu => ?_) (by unfold maxLen; omega) (by omega) hbase ?_
    · rw [List.getElem?_map] at hu
      cases e : l2[j]? with
      | none => rw [e] at hu; cases hu
      | some y =>
        rw [e] at hu
        injection hu with hu
        subst hu
        have hj : j < l2.length := (List.getElem?_eq_some_iff.1 e).1
        obtain ⟨b, o2, e2, _, hc⟩ := hA (by omega)
        injection e2 with e2
        subst e2
        rw [add_plain, hc j hj]
        simp [List.getD, e]
    · obtain ⟨y, _, rfl⟩ := List.mem_map.1 hu
      simp [Value.oneCell']
    · intro v' w' hown' hgrow _ _
      refine h v' w' ?_ (Below.grown (Below.refl _ _) hgrow hbase (fun k hk => (hown.lt k hk).1))
      unfold OI
      rw [List.length_append, List.map_append]
      exact hown'

def eqB (xs ys : List Int) : Bool := decide (xs = ys)
theorem getD_ext' {xs ys : List Int} (hl : xs.length = ys.length) (h : ∀ i, i < xs.length → xs.getD i 0 = ys.getD i 0) : xs = ys := by
  apply List.ext_getElem hl
  intro i h1 h2
  have := h i h1
  simpa [List.getD, h1, h2] using this
/-- Only the blocks T turned. -/
structure Turn (T : Nat → Prop) (w w' : World) : Prop where
  os : w'.os = w.os
  tape : w'.tape = w.tape
  output : w'.output = w.output
  size : w.heap.size ≤ w'.heap.size
  block : ∀ k, k < w.heap.size → ¬ T k → w'.heap[k]? = w.heap[k]?
theorem Turn.refl (T : Nat → Prop) (w : World) : Turn T w w := ⟨rfl, rfl, rfl, Nat.le_refl _, fun _ _ _ => rfl⟩
theorem Turn.below {T : Nat → Prop} {w w' : World} {B : Nat} (h : Turn T w w') (hT : ∀ k, T k → B ≤ k) (hB : B ≤ w.heap.size) : Below B w w' :=
  ⟨h.os, h.tape, h.output, h.size, fun k hk => h.block k (by omega) (fun hk2 => by have := hT k hk2; omega)⟩
theorem Turn.set {T : Nat → Prop} {w w' : World} (h : Turn T w w') (a : Addr) (v : Value) (ha : T a.block) : Turn T w (w'.setCell a v) :=
  ⟨h.os, h.tape, h.output, by simp; exact h.size, fun k hk hT => (Below.heap_setCell w' a v k (fun e => hT (by rw [e]; exact ha))).trans (h.block k hk hT)⟩
theorem Turn.drewN {T : Nat → Prop} {w w' : World} (h : Turn T w w') (j : Nat) : Turn T w (w'.drewN j) := ⟨h.os, h.tape, h.output, h.size, h.block⟩
/-- A block that stays keeps what lies there. -/
theorem Turn.cell {T : Nat → Prop} {w w' : World} (h : Turn T w w') {p : Addr} (hp : p.block < w.heap.size) (hT : ¬ T p.block) : w'.cell? p = w.cell? p := World.cell?_of_block (w := w) (h.block p.block hp hT)
theorem Turn.trans {T : Nat → Prop} {a b c : World} (h : Turn T a b) (k : Turn T b c) : Turn T a c :=
  ⟨k.os.trans h.os, k.tape.trans h.tape, k.output.trans h.output, Nat.le_trans h.size k.size, fun i hi hT => (k.block i (Nat.lt_of_lt_of_le hi h.size) hT).trans (h.block i hi hT)⟩
theorem Turn.of_below {T : Nat → Prop} {w w' : World} (h : Below w.heap.size w w') : Turn T w w' := ⟨h.os, h.tape, h.output, h.size, fun k hk _ => h.block k hk⟩
theorem Turn.then_below {T : Nat → Prop} {a b c : World} (h : Turn T a b) (k : Below a.heap.size b c) : Turn T a c :=
  ⟨k.os.trans h.os, k.tape.trans h.tape, k.output.trans h.output, Nat.le_trans h.size k.size, fun i hi hT => (k.block i hi).trans (h.block i hi hT)⟩
theorem IA.turn {T : Nat → Prop} {w w' : World} {A : Option Addr} {zs : List Int} (h : IA w A zs) (k : Turn T w w') (hT : ∀ a, A = some a → ¬ T a.block) : IA w' A zs := fun hn => by
  obtain ⟨b, off, e, hb, hc⟩ := h hn
  exact ⟨b, off, e, Nat.lt_of_lt_of_le hb k.size, fun i hi => (k.cell (p := ⟨b, off + i, none⟩) hb (hT ⟨b, off, none⟩ e)).trans (hc i hi)⟩
/-- A row of the call's own stays where its block does. -/
theorem OI.turn {T : Nat → Prop} {base : Nat} {w w' : World} {v : Value} {l : List Int} (h : OI base w v l) (k : Turn T w w') (hT : ∀ q, T q → q < base) : OI base w' v l := by
  obtain ⟨h1, h2⟩ := h
  refine ⟨h1, ?_⟩
  rcases h2 with h2 | ⟨g, cap, cur, e, hb, hg, r⟩
  · exact .inl h2
  · refine .inr ⟨g, cap, cur, e, hb, ?_, r⟩
    have hlt : g < w.heap.size := by
      rcases Nat.lt_or_ge g w.heap.size with hlt | hge
      · exact hlt
      · rw [Array.getElem?_eq_none hge] at hg; cases hg
    rw [k.block g hlt (fun hq => by have := hT g hq; omega)]
    exact hg
/-- The head of a row of the call's own. -/
theorem OI.head {base : Nat} {w : World} {A : Option Addr} {c m : Nat} {l : List Int} (h : OI base w (.slice A m c) l) (n : Nat) (hn : n ≤ l.length) : OI base w (.slice A n c) (l.take n) := by
  obtain ⟨h1, h2⟩ := h
  rcases h2 with ⟨e, h0⟩ | ⟨g, cap, cur, e, hb, hg, h3, h4, h5, h6⟩
  · have hn0 : n = 0 := by omega
    injection e with e1 e2 e3
    subst e1 e3 hn0
    exact World.ownsRow_nil _ _ _ _
  · injection e with e1 e2 e3
    subst e1 e3
    have hl : (l.take n).length = n := by simp; omega
    refine ⟨by simp, .inr ⟨g, c, cur, by rw [hl], hb, hg, by rw [hl]; omega, h4, h5, ?_⟩⟩
    rw [hl, List.map_take, ← h6, List.take_take]
    congr 1
    omega
theorem OI.below {base : Nat} {w w' : World} {v : Value} {l : List Int} (h : OI base w v l) (k : Below w.heap.size w w') : OI base w' v l := OI.turn (T := fun _ => False) h (Turn.of_below k) (fun _ h => h.elim)
end Go.Proofs.YtgnflnfajkoibaaDoor
namespace Go.Proofs.YtgnflnfajkoibaaDoor.sr
open Go.ChangeShapes Go.WideShapes Go.ChangeAt Go.RowKit Go.Deep Go.Joins

section
variable {α : Type} (enc : α → List Value) (size : Nat)
def flatR (l : List α) : List Value := l.flatMap enc
variable {enc size}
theorem flatR_length (hsz : ∀ x, (enc x).length = size) : ∀ l : List α, (flatR enc l).length = l.length * size
  | [] => by simp [flatR]
  | x :: l => by
    have ih := flatR_length hsz l
    unfold flatR at ih ⊢
    rw [List.flatMap_cons, List.length_append, hsz, ih, List.length_cons, Nat.add_mul]
    omega
theorem flatR_append (l l2 : List α) : flatR enc (l ++ l2) = flatR enc l ++ flatR enc l2 := by unfold flatR; rw [List.flatMap_append]

variable [Inhabited α]
theorem flatR_get (hsz : ∀ x, (enc x).length = size) : ∀ (l : List α) (i j : Nat), i < l.length → j < size → (flatR enc l)[i * size + j]? = (enc (l.getD i default))[j]?
  | [], i, j, h, _ => absurd h (by simp)
  | x :: l, 0, j, _, hj => by
    unfold flatR
    rw [List.flatMap_cons, Nat.zero_mul, Nat.zero_add, List.getElem?_append_left (by rw [hsz]; exact hj)]
    rfl
  | x :: l, i + 1, j, h, hj => by
    have ih := flatR_get hsz l i j (by simpa using h) hj
    unfold flatR at ih ⊢
    rw [List.flatMap_cons, List.getElem?_append_right (by rw [hsz, Nat.add_mul]; omega), hsz, show (i + 1) * size + j - size = i * size + j by rw [Nat.add_mul]; omega, ih]
    rfl
variable (enc size)
/-- A slice of structs at address A (nil let in) reads as l. -/
def RS (w : World) (A : Option Addr) (l : List α) : Prop :=
  0 < l.length → ∃ b off, A = some ⟨b, off, none⟩ ∧ b < w.heap.size ∧ ∀ i, i < l.length → ∀ j, j < size → w.cell? ⟨b, off + i * size + j, none⟩ = (enc (l.getD i default))[j]?
/-- A row of the call's own that reads as l. -/
def OR (base : Nat) (e : TypeId) (w : World) (v : Value) (l : List α) : Prop := w.ownsRow base e size v l.length (flatR enc l)
variable {enc size}
theorem RS.below {w w' : World} {A : Option Addr} {l : List α} (h : RS enc size w A l) (hk : Below w.heap.size w w') : RS enc size w' A l := fun hn => by
  obtain ⟨b, off, e, hb, hc⟩ := h hn
  exact ⟨b, off, e, Nat.lt_of_lt_of_le hb hk.size, fun i hi j hj => (hk.cell (p := ⟨b, off + i * size + j, none⟩) hb).trans (hc i hi j hj)⟩
theorem RS.take {w : World} {A : Option Addr} {l : List α} (h : RS enc size w A l) (k : Nat) : RS enc size w A (l.take k) := fun hn => by
  rw [List.length_take] at hn
  obtain ⟨b, off, e, hb, hc⟩ := h (by omega)
  refine ⟨b, off, e, hb, fun i hi j hj => ?_⟩
  rw [List.length_take] at hi
  have q : (l.take k).getD i default = l.getD i default := by simp [List.getD, List.getElem?_take, show i < k by omega]
  rw [q]
  exact hc i (by omega) j hj
theorem OR.rs {base : Nat} {e : TypeId} {w : World} {v : Value} {l : List α} (hsz : ∀ x, (enc x).length = size) (h : OR enc size base e w v l) : ∃ A c, v = .slice A l.length c ∧ RS enc size w A l := by
  have h' : w.ownsRow base e size v l.length (flatR enc l) := h
  rcases ownsRow_forms h' with ⟨rfl, h0⟩ | ⟨g, cap, rfl⟩
  · exact ⟨none, 0, by rw [h0], fun hn => absurd hn (by omega)⟩
  · refine ⟨_, cap, rfl, fun hn => ⟨g, 0, rfl, (h'.lt g rfl).2, fun i hi j hj => ?_⟩⟩
    have hle : (i + 1) * size ≤ l.length * size := Nat.mul_le_mul_right _ hi
    rw [Nat.add_mul] at hle
    rw [Nat.zero_add, h'.cellAt (i * size + j) (by omega), flatR_get hsz l i j hi hj]
/-- A struct that was laid anew. -/
theorem RS.one {w : World} {x : α} {t : TypeId} {cs : Array Value} (hsz : ∀ x, (enc x).length = size) (h0 : 0 < size) (hcs : cs = (enc x).toArray) (k : Nat) (hk : w.heap[k]? = some (.cells cs t)) : RS enc size w (some ⟨k, 0, none⟩) [x] := fun _ => by
  refine ⟨k, 0, rfl, (Array.getElem?_eq_some_iff.1 hk).1, fun i hi j hj => ?_⟩
  have hi : i < 1 := hi
  obtain rfl : i = 0 := by omega
  subst hcs
  have hjl : j < (enc x).length := by rw [hsz]; exact hj
  have : w.cell? ⟨k, 0 + 0 * size + j, none⟩ = (enc x)[j]? := by
    simp [World.cell?, hk]
  exact this

variable {P : Program}
/-- append of what a slice reads as onto a row of the call's own: the run. -/
theorem run_append_rs {t e : TypeId} {z : Value} {bytes : Nat} (hsz : ∀ x, (enc x).length = size) (hone : ∀ x, ∀ u ∈ enc x, u.oneCell' = true) (ht : P.underlying t = some (.slice e)) (hi : (P.info? e).map (fun i => (i.zero, i.size, i.bytes)) = some (some z, size, bytes)) (hzs : z.cells.size = size) (h0 : 0 < size) (hby : bytes ≤ 100)
    {w : World} (base : Nat) (v : Value) (l : List α) (hown : OR enc size base e w v l) (A : Option Addr) (m c : Nat) (l2 : List α) (hm : m = l2.length) (hpos : 0 < m) (hA : RS enc size w A l2) (hlen : l.length + m ≤ 1000000) (hbase : base ≤ w.heap.size) :
    ∃ v' w', (Builtin.append_ #[t, t] t #[v, .slice A m c]).run P w = .ok v' w' ∧ OR enc size base e w' v' (l ++ l2) ∧ w.grownBy w' v.ownBlock := by
  obtain ⟨i0, hi0, hz0, hz1, hz2⟩ := info_parts hi
  subst hm
  obtain ⟨b, off, rfl, hb, hc⟩ := hA hpos
  obtain ⟨v', w', hr, h2, h3, _, _⟩ := run_append_own_at (P := P) w base t t e i0 z size bytes ht hi0 hz0 hz1 hz2 hzs h0 v l.length _ hown ⟨b, off, none⟩ l2.length c (flatR enc l2) (flatR_length hsz l2) (fun j u hu => by
    have hj : j < l2.length * size := by rw [← flatR_length hsz l2]; exact (List.getElem?_eq_some_iff.1 hu).1
    have hd : j / size < l2.length := (Nat.div_lt_iff_lt_mul h0).2 hj
    have hm2 : j % size < size := Nat.mod_lt _ h0
    have hjj : j / size * size + j % size = j := Nat.div_add_mod' j size
    have h5 := flatR_get hsz l2 _ _ hd hm2
    rw [hjj, hu] at h5
    rw [add_plain, show off + j = off + j / size * size + j % size by omega, hc _ hd _ hm2, ← h5]) (fun u hu => by
    obtain ⟨x, _, hx⟩ := List.mem_flatMap.1 hu
    exact hone x u hx) (by unfold maxLen; omega) (by
    have : (l.length + l2.length) * bytes ≤ 1000000 * 100 := Nat.mul_le_mul hlen hby
    omega) hbase
  refine ⟨v', w', hr, ?_, h3⟩
  unfold OR
  rw [List.length_append, flatR_append]
  exact h2
/-- An append whose run is known, at a step of a region that draws its order. -/
theorem step_append_at {w w' : World} {ops : Array Oper} {o : Oper} {a : Act} {K : Act → World → Prop} {Q : Exit → Act → World → Prop} {E : Prop} {t : TypeId} {v u v' : Value} (hgd : o.guard = none) (s x : Operand)
    (ho : o.op = .call { callee := .builtin .append, args := #[s, x], argTypes := #[t, t] }) (hty : o.type = t) (hs : a.eval s = v) (hx : a.eval x = u)
    (hr : (Builtin.append_ #[t, t] t #[v, u]).run P w = .ok v' w') (h : K (a.put o.dst v') w') :
    if Region.wanted o (yielded ops a.tmps) = true then Oper.wp P o a w K Q else E := by
  have hw : Region.wanted o (yielded ops a.tmps) = true := by simp [Region.wanted, hgd]
  rw [if_pos hw]
  unfold Oper.wp execOp
  simp only [ho, resolve, invoke, builtin, Sem.run_bind, Sem.run_pure, Result.andThen_ok, List.map_toArray, List.map_cons, List.map_nil, hs, hx, hty, hr]
  exact h
/-- The first append: of all of a slice onto a row that holds nothing. -/
theorem step_append_first {t e : TypeId} {z : Value} {bytes : Nat} (hsz : ∀ x, (enc x).length = size) (hone : ∀ x, ∀ u ∈ enc x, u.oneCell' = true) (ht : P.underlying t = some (.slice e)) (hi : (P.info? e).map (fun i => (i.zero, i.size, i.bytes)) = some (some z, size, bytes)) (hzs : z.cells.size = size) (h0 : 0 < size) (hby : bytes ≤ 100)
    {w : World} {ops : Array Oper} {o : Oper} {a : Act} {K : Act → World → Prop} {Q : Exit → Act → World → Prop} {E : Prop} (base H : Nat) (hgd : o.guard = none) (s x : Operand)
    (ho : o.op = .call { callee := .builtin .append, args := #[s, x], argTypes := #[t, t] }) (hty : o.type = t) (hs : a.eval s = .slice (some ⟨H, 0, none⟩) 0 0) (l : List α) (A : Option Addr) (m c : Nat) (hx : a.eval x = .slice A m c) (hm : m = l.length) (hpos : 0 < m) (hA : RS enc size w A l) (hlen : m ≤ 1000) (hbase : base ≤ H) (hH : w.heap[H]? = some (.cells #[] e))
    (h : ∀ v' w', OR enc size base e w' v' l → w.grownBy w' (some H) → K (a.put o.dst v') w') :
    if Region.wanted o (yielded ops a.tmps) = true then Oper.wp P o a w K Q else E := by
  have hlt := (Array.getElem?_eq_some_iff.1 hH).1
  obtain ⟨v', w', hr, h2, h3⟩ := run_append_rs hsz hone ht hi hzs h0 hby (w := w) base (.slice (some ⟨H, 0, none⟩) 0 0) [] ⟨by simp [flatR], .inr ⟨H, 0, #[], rfl, hbase, hH, Nat.le_refl _, Nat.zero_le _, by simp, by simp [flatR]⟩⟩ A m c l hm hpos hA (by simp; omega) (by omega)
  exact step_append_at hgd s x ho hty hs hx hr (h v' w' h2 h3)
/-- The second: of one more. -/
theorem step_append_more {t e : TypeId} {z : Value} {bytes : Nat} (hsz : ∀ x, (enc x).length = size) (hone : ∀ x, ∀ u ∈ enc x, u.oneCell' = true) (ht : P.underlying t = some (.slice e)) (hi : (P.info? e).map (fun i => (i.zero, i.size, i.bytes)) = some (some z, size, bytes)) (hzs : z.cells.size = size) (h0 : 0 < size) (hby : bytes ≤ 100)
    {w : World} {ops : Array Oper} {o : Oper} {a : Act} {K : Act → World → Prop} {Q : Exit → Act → World → Prop} {E : Prop} (base H : Nat) (hgd : o.guard = none) (s x : Operand)
    (ho : o.op = .call { callee := .builtin .append, args := #[s, x], argTypes := #[t, t] }) (hty : o.type = t) (v : Value) (l : List α) (hs : a.eval s = v) (hown : OR enc size base e w v l) (y : α) (cs : Array Value) (hcs : cs = (enc y).toArray) (hx : a.eval x = .slice (some ⟨H, 0, none⟩) 1 1) (hlen : l.length ≤ 1000) (hbase : base ≤ w.heap.size) (t2 : TypeId) (hH : w.heap[H]? = some (.cells cs t2)) (n : Nat) (hn : l.length + 1 = n)
    (h : ∀ A' c' w', RS enc size w' A' (l ++ [y]) → Below base w w' → K (a.put o.dst (.slice A' n c')) w') :
    if Region.wanted o (yielded ops a.tmps) = true then Oper.wp P o a w K Q else E := by
  obtain ⟨v', w', hr, h2, h3⟩ := run_append_rs hsz hone ht hi hzs h0 hby (w := w) base v l hown (some ⟨H, 0, none⟩) 1 1 [y] rfl (by decide) (RS.one hsz h0 hcs H hH) (by omega) hbase
  obtain ⟨A', c', rfl, h4⟩ := OR.rs hsz h2
  rw [List.length_append, List.length_singleton, hn] at hr
  exact step_append_at hgd s x ho hty hs hx hr (h A' c' w' h4 (Below.grown (Below.refl _ _) h3 hbase (fun k hk => (World.ownsRow.lt hown k hk).1)))
/-- One struct more onto a row of the call's own, at a step of a region that draws its order. -/
theorem step_append_own {t e : TypeId} {z : Value} {bytes : Nat} (hsz : ∀ x, (enc x).length = size) (hone : ∀ x, ∀ u ∈ enc x, u.oneCell' = true) (ht : P.underlying t = some (.slice e)) (hi : (P.info? e).map (fun i => (i.zero, i.size, i.bytes)) = some (some z, size, bytes)) (hzs : z.cells.size = size) (h0 : 0 < size) (hby : bytes ≤ 100)
    {w : World} {ops : Array Oper} {o : Oper} {a : Act} {K : Act → World → Prop} {Q : Exit → Act → World → Prop} {E : Prop} (base H : Nat) (hgd : o.guard = none) (s x : Operand)
    (ho : o.op = .call { callee := .builtin .append, args := #[s, x], argTypes := #[t, t] }) (hty : o.type = t) (v : Value) (l : List α) (hs : a.eval s = v) (hown : OR enc size base e w v l) (y : α) (cs : Array Value) (hcs : cs = (enc y).toArray) (hx : a.eval x = .slice (some ⟨H, 0, none⟩) 1 1) (hlen : l.length ≤ 100000) (hbase : base ≤ w.heap.size) (t2 : TypeId) (hH : w.heap[H]? = some (.cells cs t2))
    (h : ∀ v' w', OR enc size base e w' v' (l ++ [y]) → Below base w w' → w.grownBy w' v.ownBlock → K (a.put o.dst v') w') :
    if Region.wanted o (yielded ops a.tmps) = true then Oper.wp P o a w K Q else E := by
  obtain ⟨v', w', hr, h2, h3⟩ := run_append_rs hsz hone ht hi hzs h0 hby (w := w) base v l hown (some ⟨H, 0, none⟩) 1 1 [y] rfl (by decide) (RS.one hsz h0 hcs H hH) (by omega) hbase
  exact step_append_at hgd s x ho hty hs hx hr (h v' w' h2 (Below.grown (Below.refl _ _) h3 hbase (fun k hk => (World.ownsRow.lt hown k hk).1)) h3)
/-- .. in a region that keeps its order. -/
theorem list_append_own {t e : TypeId} {z : Value} {bytes : Nat} (hsz : ∀ x, (enc x).length = size) (hone : ∀ x, ∀ u ∈ enc x, u.oneCell' = true) (ht : P.underlying t = some (.slice e)) (hi : (P.info? e).map (fun i => (i.zero, i.size, i.bytes)) = some (some z, size, bytes)) (hzs : z.cells.size = size) (h0 : 0 < size) (hby : bytes ≤ 100)
    {w : World} {ops : Array Oper} {rest : List Oper} {o : Oper} {a : Act} {Q : Exit → Act → World → Prop} (base H : Nat) (hgd : o.guard = none) (s x : Operand)
    (ho : o.op = .call { callee := .builtin .append, args := #[s, x], argTypes := #[t, t] }) (hty : o.type = t) (v : Value) (l : List α) (hs : a.eval s = v) (hown : OR enc size base e w v l) (y : α) (cs : Array Value) (hcs : cs = (enc y).toArray) (hx : a.eval x = .slice (some ⟨H, 0, none⟩) 1 1) (hlen : l.length ≤ 100000) (hbase : base ≤ w.heap.size) (t2 : TypeId) (hH : w.heap[H]? = some (.cells cs t2))
    (h : ∀ v' w', OR enc size base e w' v' (l ++ [y]) → Below base w w' → w.grownBy w' v.ownBlock → wpList P ops Q rest (a.put o.dst v') w') :
    wpList P ops Q (o :: rest) a w := by
  obtain ⟨v', w', hr, h2, h3⟩ := run_append_rs hsz hone ht hi hzs h0 hby (w := w) base v l hown (some ⟨H, 0, none⟩) 1 1 [y] rfl (by decide) (RS.one hsz h0 hcs H hH) (by omega) hbase
  exact Lib.wpList_append_run w hgd s x t t ho v _ hs hx _ w' (by rw [hty]; exact hr) (h v' w' h2 (Below.grown (Below.refl _ _) h3 hbase (fun k hk => (World.ownsRow.lt hown k hk).1)) h3)
end
theorem OR.below {α : Type} {enc : α → List Value} {size : Nat} {base : Nat} {e : TypeId} {w w' : World} {v : Value} {l : List α} (h : OR enc size base e w v l) (hb : Below w.heap.size w w') : OR enc size base e w' v l := by
  refine World.ownsRow.kept (row := none) h ⟨hb.os, hb.tape, hb.output, hb.size, fun k hk _ => hb.block k hk⟩ ?_
  rcases hv : v.ownBlock with _ | g
  · exact .inl rfl
  · exact .inr (fun e => by cases e)
theorem OR.mono {α : Type} {enc : α → List Value} {size : Nat} {base base' : Nat} {e : TypeId} {w : World} {v : Value} {l : List α} (h : OR enc size base e w v l) (hb : base' ≤ base) : OR enc size base' e w v l := Go.Joins.ownsRow_le h hb

theorem far_cell {w4 W w5 : World} {H b o : Nat} {v : Value} (hB : Below w4.heap.size w4 W) (hg : W.grownBy w5 (some H)) (hH : w4.heap.size ≤ H) (hb : b < w4.heap.size) (hc : w4.cell? ⟨b, o, none⟩ = some v) : w5.cell? ⟨b, o, none⟩ = some v :=
  (hg.cell_far ⟨b, o, none⟩ (Nat.lt_of_lt_of_le hb hB.size) (fun e => by have e : b = H := Option.some.inj e; omega)).trans ((hB.cell (p := ⟨b, o, none⟩) hb).trans hc)
theorem below_far {w4 W w5 : World} {H : Nat} (hB : Below w4.heap.size w4 W) (hg : W.grownBy w5 (some H)) (hH : w4.heap.size ≤ H) : Below w4.heap.size w4 w5 := Below.grown hB hg hB.size (fun k e => by cases e; exact hH)
theorem heap_prev (w : World) (o o2 : Obj) : ((w.alloc o).alloc o2).heap[w.heap.size]? = some o := (Below.heap_alloc _ _ _ (by simp)).trans (World.alloc_heap_new w o)
theorem heap_next (w : World) (o o2 : Obj) : ((w.alloc o).alloc o2).heap[w.heap.size + 1]? = some o2 := by
  have := World.alloc_heap_new (w.alloc o) o2
  rwa [World.size_alloc] at this

end Go.Proofs.YtgnflnfajkoibaaDoor.sr
namespace Go.Proofs.YtgnflnfajkoibaaDoor
open Go.ChangeShapes Go.WideShapes Go.ChangeAt Go.RowKit

theorem PA.turn {T : Nat → Prop} {w w' : World} {A : Option Addr} {zs : List (Int × Int)} (h : PA w A zs) (k : Turn T w w') (hT : ∀ a, A = some a → ¬ T a.block) : PA w' A zs := fun hn => by
  obtain ⟨b, off, e, hb, hc⟩ := h hn
  exact ⟨b, off, e, Nat.lt_of_lt_of_le hb k.size, fun i hi => ⟨(k.cell (p := ⟨b, off + i * 2, none⟩) hb (hT ⟨b, off, none⟩ e)).trans (hc i hi).1, (k.cell (p := ⟨b, off + i * 2 + 1, none⟩) hb (hT ⟨b, off, none⟩ e)).trans (hc i hi).2⟩⟩
theorem PA.below {w w' : World} {A : Option Addr} {zs : List (Int × Int)} (h : PA w A zs) (k : Below w.heap.size w w') : PA w' A zs := h.turn (T := fun _ => False) (Turn.of_below k) (fun _ _ h => h)
theorem below_one (w : World) (o : Obj) : Below w.heap.size w (w.alloc o) := (Below.refl _ _).alloc (Nat.le_refl _) _
namespace lt

set_option maxHeartbeats 4000000 in
theorem takes_no (op : Int) (w : World) (h : kT op = -1) : Calls Tryd.prog 72 #[.int .i64 op] w fun e w' => e = .returned (.tuple #[.int .i64 0, .bool false]) ∧ w = w' := by
  rcases kT_cases op with ⟨h1, _⟩ | ⟨h1, _⟩ | ⟨h1, _⟩ | ⟨_, h2⟩
  · omega
  · omega
  · omega
  · obtain ⟨h1, h2, h3, h4, h5, h6, h7, h8, h9, h10, h11, h12⟩ : op ≠ 1 ∧ op ≠ 2 ∧ op ≠ 3 ∧ op ≠ 4 ∧ op ≠ 5 ∧ op ≠ 6 ∧ op ≠ 7 ∧ op ≠ 8 ∧ op ≠ 9 ∧ op ≠ 10 ∧ op ≠ 11 ∧ op ≠ 12 := by omega
    clear h h2
    go_enter Tryd.func72, Tryd.ntmps72
    go_wp2
    go_ret2
    exact ⟨rfl, rfl⟩
set_option maxHeartbeats 4000000 in
theorem takes_yes (op : Int) (t : Nat) (w : World) (h : kT op = t) : Calls Tryd.prog 72 #[.int .i64 op] w fun e w' => e = .returned (.tuple #[.int .i64 t, .bool true]) ∧ w = w' := by
  rcases kT_cases op with ⟨h1, h2⟩ | ⟨h1, h2⟩ | ⟨h1, h2⟩ | ⟨_, h2⟩
  · obtain rfl : t = 0 := by omega
    clear h h1
    rcases h2 with rfl | rfl | rfl
    all_goals
      go_enter Tryd.func72, Tryd.ntmps72
      go_wp2
      go_ret2
      exact ⟨rfl, rfl⟩
  · obtain rfl : t = 1 := by omega
    clear h h1
    rcases h2 with rfl | rfl | rfl | rfl
    all_goals
      go_enter Tryd.func72, Tryd.ntmps72
      go_wp2
      go_ret2
      exact ⟨rfl, rfl⟩
  · obtain rfl : t = 2 := by omega
    clear h h1
    rcases h2 with rfl | rfl | rfl | rfl | rfl
    all_goals
      go_enter Tryd.func72, Tryd.ntmps72
      go_wp2
      go_ret2
      exact ⟨rfl, rfl⟩
  · omega
set_option maxHeartbeats 4000000 in
/-- The document's. -/
theorem refTakes_any (op : Int) (w : World) : Calls Tryd.prog 46 #[.int .i64 op] w fun e w' => e = .returned (.int .i64 (kT op)) ∧ w = w' := by
  rcases kT_cases op with ⟨h1, h2⟩ | ⟨h1, h2⟩ | ⟨h1, h2⟩ | ⟨h1, h2⟩
  · rw [h1]
    clear h1
    rcases h2 with rfl | rfl | rfl
    all_goals
      go_enter Tryd.func46, Tryd.ntmps46
      go_wp2
      go_ret
      exact ⟨rfl, rfl⟩
  · rw [h1]
    clear h1
    rcases h2 with rfl | rfl | rfl | rfl
    all_goals
      go_enter Tryd.func46, Tryd.ntmps46
      go_wp2
      go_ret
      exact ⟨rfl, rfl⟩
  · rw [h1]
    clear h1
    rcases h2 with rfl | rfl | rfl | rfl | rfl
    all_goals
      go_enter Tryd.func46, Tryd.ntmps46
      go_wp2
      go_ret
      exact ⟨rfl, rfl⟩
  · rw [h1]
    obtain ⟨h1, h2, h3, h4, h5, h6, h7, h8, h9, h10, h11, h12⟩ : op ≠ 1 ∧ op ≠ 2 ∧ op ≠ 3 ∧ op ≠ 4 ∧ op ≠ 5 ∧ op ≠ 6 ∧ op ≠ 7 ∧ op ≠ 8 ∧ op ≠ 9 ∧ op ≠ 10 ∧ op ≠ 11 ∧ op ≠ 12 := by omega
    clear h1 h2
    go_enter Tryd.func46, Tryd.ntmps46
    go_wp2
    go_ret
    exact ⟨rfl, rfl⟩

/-- How many parts are left. -/
def leftV (n : Nat) (x : Int × Int) : Int := if ndW n x = 0 then (n : Int) - kT x.1 else 0
set_option maxRecDepth 20000 in
set_option maxHeartbeats 4000000 in
theorem left_any (op q : Int) (n : Nat) (w : World) (hn : n ≤ 1000) : Calls Tryd.prog 57 #[.agg #[.int .i64 op, .int .i64 q], .int .i64 n] w fun e w' => e = .returned (.tuple #[.int .i64 (leftV n (op, q)), .int .i64 (ndW n (op, q))]) ∧ Below w.heap.size w w' := by
  obtain ⟨a, HA⟩ : ∃ a, Hid (leftV n (op, q) = a) := ⟨_, Lib.hid rfl⟩
  obtain ⟨b, HB⟩ : ∃ b, Hid (ndW n (op, q) = b) := ⟨_, Lib.hid rfl⟩
  rw [HA.out, HB.out]
  by_cases hneg : kT op < 0
  · have h1 : kT op = -1 := by have := kT_range op; omega
    have e1 : ndW n (op, q) = 3 := by unfold ndW; rw [if_pos hneg]
    have HE : Hid (a = 0 ∧ b = 3) := Lib.hid ⟨by rw [← HA.out]; unfold leftV; rw [e1]; rfl, by rw [← HB.out]; exact e1⟩
    have H1 := Lib.hid h1
    clear h1 hneg e1
    go_enter Tryd.func57, Tryd.ntmps57
    go_wp2_with fail
    refine (takes_no op _ H1.out).mono ?_
    rintro e w' ⟨rfl, rfl⟩
    go_wp2
    go_ret2
    exact ⟨by rw [HE.out.1, HE.out.2]; rfl, below_one _ _⟩
  · obtain ⟨t, HT⟩ : ∃ t : Nat, Hid (kT op = t) := ⟨(kT op).toNat, Lib.hid (by omega)⟩
    have ht2 : t ≤ 2 := by have := kT_range op; have := HT.out; omega
    by_cases hsh : n < t
    · have e1 : ndW n (op, q) = 4 := by unfold ndW; rw [if_neg hneg, if_pos (by rw [HT.out]; omega)]
      have HE : Hid (a = 0 ∧ b = 4) := Lib.hid ⟨by rw [← HA.out]; unfold leftV; rw [e1]; rfl, by rw [← HB.out]; exact e1⟩
      clear hneg e1
      go_enter Tryd.func57, Tryd.ntmps57
      go_wp2_with fail
      refine (takes_yes op t _ HT.out).mono ?_
      rintro e w' ⟨rfl, rfl⟩
      go_wp2
      go_ret2
      exact ⟨by rw [HE.out.1, HE.out.2]; rfl, below_one _ _⟩
    · have hsh2 : t ≤ n := by omega
      by_cases h3 : op = 3
      · subst h3
        have ht0 : t = 0 := by have := HT.out; unfold kT at this; simp at this; omega
        subst ht0
        by_cases hq : q < 0 ∨ 8 ≤ q
        · have e1 : ndW n (3, q) = 10 := by unfold ndW; rw [if_neg hneg, if_neg (by rw [HT.out]; omega), if_pos ⟨rfl, hq⟩]
          have HE : Hid (a = 0 ∧ b = 10) := Lib.hid ⟨by rw [← HA.out]; unfold leftV; rw [e1]; rfl, by rw [← HB.out]; exact e1⟩
          clear hneg e1
          by_cases hq0 : q < 0
          · clear hq
            go_enter Tryd.func57, Tryd.ntmps57
            go_wp2_with fail
            refine (takes_yes 3 0 _ HT.out).mono ?_
            rintro e w' ⟨rfl, rfl⟩
            go_wp2
            go_ret2
            exact ⟨by rw [HE.out.1, HE.out.2]; rfl, below_one _ _⟩
          · have hq8 : 8 ≤ q := by omega
            clear hq
            go_enter Tryd.func57, Tryd.ntmps57
            go_wp2_with fail
            refine (takes_yes 3 0 _ HT.out).mono ?_
            rintro e w' ⟨rfl, rfl⟩
            go_wp2
            go_ret2
            exact ⟨by rw [HE.out.1, HE.out.2]; rfl, below_one _ _⟩
        · have e1 : ndW n (3, q) = 0 := by unfold ndW; rw [if_neg hneg, if_neg (by rw [HT.out]; omega), if_neg (fun h => hq h.2)]
          have HE : Hid (a = n ∧ b = 0) := Lib.hid ⟨by rw [← HA.out]; unfold leftV; rw [e1, if_pos rfl]; have := HT.out; show (n : Int) - kT 3 = n; omega, by rw [← HB.out]; exact e1⟩
          have hq0 : ¬ q < 0 := by omega
          have hq8 : ¬ 8 ≤ q := by omega
          clear hneg e1 hq
          go_enter Tryd.func57, Tryd.ntmps57
          go_wp2_with fail
          refine (takes_yes 3 0 _ HT.out).mono ?_
          rintro e w' ⟨rfl, rfl⟩
          go_wp2
          go_ret2
          exact ⟨by rw [HE.out.1, HE.out.2]; rfl, below_one _ _⟩
      · have e1 : ndW n (op, q) = 0 := by unfold ndW; rw [if_neg hneg, if_neg (by rw [HT.out]; omega), if_neg (fun h => h3 h.1)]
        have HE : Hid (a = n - t ∧ b = 0) := Lib.hid ⟨by rw [← HA.out]; unfold leftV; rw [e1, if_pos rfl]; show (n : Int) - kT op = _; rw [HT.out], by rw [← HB.out]; exact e1⟩
        clear hneg e1
        go_enter Tryd.func57, Tryd.ntmps57
        go_wp2_with fail
        refine (takes_yes op t _ HT.out).mono ?_
        rintro e w' ⟨rfl, rfl⟩
        go_wp2
        go_ret2
        exact ⟨by rw [HE.out.1, HE.out.2]; rfl, below_one _ _⟩
end lt
end Go.Proofs.YtgnflnfajkoibaaDoor
