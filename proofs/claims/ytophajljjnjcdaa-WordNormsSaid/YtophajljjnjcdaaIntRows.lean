/- Rows of ints of the call's own: what they read as, appends to them; which blocks a call turns. -/
import Derived.Test.YtophajljjnjcdaaLaw
import Derived.Maps.AppendAt
import Derived.Deep.AppendLies
import Derived.Laws.OwnMore
import Derived.Laws.AppendOwnNone
namespace Go.Proofs.Ytophajljjnjcdaa
open Go.ChangeShapes Go.WideShapes Go.ChangeAt Go.RowKit

theorem Try.info3 : (Try.prog.info? 3).map (fun i => (i.zero, i.size, i.bytes)) = some (some (.int .i64 0), 1, 8) := by kernel_rfl
theorem IA.at_ {w : World} {A : Option Addr} {l : List Int} (h : IA w A l) {i : Nat} (hi : i < l.length) : ∃ b off, A = some ⟨b, off, none⟩ ∧ b < w.heap.size ∧ w.cell? ⟨b, off + i, none⟩ = some (.int .i64 (l.getD i 0)) := by
  obtain ⟨b, off, e, hb, hc⟩ := h (by omega)
  exact ⟨b, off, e, hb, hc i hi⟩

/-- A slice of ints with its capacity. -/
structure InS (w : World) (A : Option Addr) (c : Nat) (l : List Int) : Prop where
  ia : IA w A l
  le : l.length ≤ c
  max : c ≤ maxLen
  non : A = none → c = 0
/-- What a call leaves that hands back a list. -/
def RowP (w : World) (L : List Int) (e : Ending) (w' : World) : Prop := ∃ A c, e = .returned (.slice A L.length c) ∧ InS w' A c L ∧ Below w.heap.size w w'
theorem RowP.nil {w w' : World} {L : List Int} (h : L = []) (hb : Below w.heap.size w w') : RowP w L (.returned (.slice none 0 0)) w' := by
  subst h
  exact ⟨none, 0, rfl, ⟨IA.nil _ _, Nat.le_refl _, Nat.zero_le _, fun _ => rfl⟩, hb⟩
theorem RowP.made {w w' : World} {L : List Int} {b m : Nat} {t : TypeId} {f : Nat → Value} (hm : m = L.length) (hl : m ≤ 1000000) (hr : w'.rowIs b t m f) (hf : ∀ i, i < m → f i = .int .i64 (L.getD i 0)) (hb : Below w.heap.size w w') :
    RowP w L (.returned (.slice (some ⟨b, 0, none⟩) m m)) w' := by
  subst hm
  refine ⟨_, _, rfl, ⟨fun _ => ⟨b, 0, rfl, hr.lt, fun i hi => ?_⟩, Nat.le_refl _, by unfold maxLen; omega, fun h => by cases h⟩, hb⟩
  have := hr.cell (i := i) hi
  rw [Nat.zero_add, this, hf i hi]

/-- The first k of L, then nothing. -/
def fst (L : List Int) (k j : Nat) : Value := .int .i64 (if j < k then L.getD j 0 else 0)
theorem fst_full {L : List Int} {m : Nat} (i : Nat) (hi : i < m) : fst L m i = .int .i64 (L.getD i 0) := by unfold fst; rw [if_pos hi]

theorem fst_step {L : List Int} {k m : Nat} {x : Int} {w : World} {b : Nat} {t : TypeId} (hr : w.rowIs b t m (fst L k)) (hx : x = L.getD k 0) : (w.setCell ⟨b, k, none⟩ (.int .i64 x)).rowIs b t m (fst L (k + 1)) :=
  (hr.set k _).congr (fun j hj => by
    by_cases hjk : j = k
    · subst hjk; simp only [if_pos, fst]; rw [if_pos (by omega), hx]
    · simp only [if_neg hjk, fst]
      congr 1
      by_cases h2 : j < k
      · rw [if_pos h2, if_pos (by omega)]
      · rw [if_neg h2, if_neg (by omega)])

/-- The slice v is a row of ints of the call's own, from block base on. -/
def OI (base : Nat) (w : World) (v : Value) (l : List Int) : Prop := w.ownsRow base 3 1 v l.length (l.map (Value.int .i64))
theorem OI.form {base : Nat} {w : World} {v : Value} {l : List Int} (h : OI base w v l) : ∃ A c, v = .slice A l.length c ∧ IA w A l := by
  rcases h.2 with ⟨rfl, h0⟩ | ⟨g, cap, cur, rfl, _⟩
  · exact ⟨none, 0, by rw [h0], fun hn => by omega⟩
  · refine ⟨_, cap, rfl, fun hn => ?_⟩
    obtain ⟨g', cap', e, _, hlt⟩ := World.ownsRow.form h hn
    injection e with e1 e2 e3
    injection e1 with e1
    injection e1 with e1
    subst e1
    refine ⟨g, 0, rfl, hlt, fun i hi => ?_⟩
    have := World.ownsRow.cellAt h i (by omega)
    rw [Nat.zero_add, this]
    simp [List.getD, hi]
theorem oi_snoc {base : Nat} {w : World} {v : Value} {l : List Int} {x : Int} (h : w.ownsRow base 3 1 v (l.length + 1) (l.map (Value.int .i64) ++ [.int .i64 x])) : OI base w v (l ++ [x]) := by
  unfold OI
  rw [List.length_append, List.map_append]
  exact h
theorem OI.nil (base : Nat) (w : World) : OI base w (.slice none 0 0) [] := World.ownsRow_nil _ _ _ _
theorem OI.ins {base : Nat} {w : World} {v : Value} {l : List Int} (h : OI base w v l) : ∃ A c, v = .slice A l.length c ∧ InS w A c l ∧ ∀ a, A = some a → base ≤ a.block ∧ a.block < w.heap.size := by
  have hb := World.ownsRow.lt h
  obtain ⟨A, c, e, i⟩ := h.form
  subst e
  refine ⟨A, c, rfl, ?_, fun a e => hb a.block (by rw [e]; rfl)⟩
  rcases h.2 with ⟨e2, h0⟩ | ⟨g2, cap, cur, e2, _, _, h1, h2, _⟩
  · injection e2 with e3 e4 e5
    subst e5
    exact ⟨i, by omega, by unfold maxLen; omega, fun _ => rfl⟩
  · injection e2 with e3 e4 e5
    subst e5
    exact ⟨i, h1, h2, fun e => by rw [e] at e3; cases e3⟩
theorem OI.row {w w' : World} {v : Value} {l : List Int} (h : OI w.heap.size w' v l) (hb : Below w.heap.size w w') : RowP w l (.returned v) w' := by
  obtain ⟨A, c, rfl, hi, _⟩ := h.ins
  exact ⟨A, c, rfl, hi, hb⟩

/-- append of one int onto a row of the call's own. -/
theorem append_one {w : World} {ops : Array Oper} {rest : List Oper} {o : Oper} {a : Act} {Q : Exit → Act → World → Prop} (hgd : o.guard = none) (s x : Operand)
    (ho : o.op = .call { callee := .builtin .append, args := #[s, x], argTypes := #[59, 59] })
    (base : Nat) (v : Value) (l : List Int) (hs : a.eval s = v) (hown : OI base w v l) (z : Int)
    (hx : a.eval x = .slice (some ⟨w.heap.size, 0, none⟩) 1 1)
    (hlen : l.length + 1 ≤ 1000000) (hbase : base ≤ w.heap.size)
    (h : ∀ v' w', OI base w' v' (l ++ [z]) → Below base w w' → wpList Try.prog ops Q rest (a.put o.dst v') w') :
    wpList Try.prog ops Q (o :: rest) a (w.alloc (.cells #[.int .i64 z] 3)) := by
  obtain ⟨i0, hi, hz0, hz1, hz2⟩ := info_parts Try.info3
  refine wpList_append_own_at _ hgd s x 59 ho base 3 i0 (.int .i64 0) 1 8 Try.underlying59 hi hz0 hz1 hz2 rfl (by decide) v l.length _ hs (hown.alloc _) ⟨w.heap.size, 0, none⟩ 1 1 [.int .i64 z] hx rfl (cell_one_new _ _ _) (by simp [Value.oneCell']) (by unfold maxLen; omega) (by omega) (by simp; omega) ?_
  intro v' w' hown' hgrow _ hb
  exact h v' w' (oi_snoc hown') (Below.grown ((Below.refl _ _).alloc hbase _) hgrow (by simp; omega) (fun k hk => (hown.lt k hk).1))

set_option maxRecDepth 20000 in
/-- append of what a slice reads as onto a row of the call's own. -/
theorem append_list {w : World} {ops : Array Oper} {rest : List Oper} {o : Oper} {a : Act} {Q : Exit → Act → World → Prop} (hgd : o.guard = none) (s x : Operand)
    (ho : o.op = .call { callee := .builtin .append, args := #[s, x], argTypes := #[59, 59] })
    (base : Nat) (v : Value) (l : List Int) (hs : a.eval s = v) (hown : OI base w v l) (A : Option Addr) (m c : Nat) (l2 : List Int) (hm : m = l2.length)
    (hx : a.eval x = .slice A m c) (hA : IA w A l2) (hN : A = none → c = 0) (hlen : l.length + l2.length ≤ 1000000) (hbase : base ≤ w.heap.size)
    (h : ∀ v' w', OI base w' v' (l ++ l2) → Below base w w' → wpList Try.prog ops Q rest (a.put o.dst v') w') :
    wpList Try.prog ops Q (o :: rest) a w := by
  obtain ⟨i0, hi, hz0, hz1, hz2⟩ := info_parts Try.info3
  subst hm
  cases A with
  | none =>
    have h0 : l2 = [] := by
      rcases Nat.eq_zero_or_pos l2.length with h | h
      · exact List.eq_nil_of_length_eq_zero h
      · obtain ⟨b, o, e, _⟩ := hA h
        cases e
    subst h0
    rw [hN rfl] at hx
    refine wpList_append_own_none hgd s x 59 ho base 3 i0 1 Try.underlying59 hi v l.length _ hs hown hx (h v w ?_ (Below.refl _ _))
    rw [List.append_nil]
    exact hown
  | some ad =>
    refine wpList_append_own_at _ hgd s x 59 ho base 3 i0 (.int .i64 0) 1 8 Try.underlying59 hi hz0 hz1 hz2 rfl (by decide) v l.length _ hs hown ad l2.length c (l2.map (Value.int .i64)) hx (by simp) (fun j u hu => ?_) (fun u hu => ?_) (by unfold maxLen; omega) (by omega) hbase ?_
    · rw [List.getElem?_map] at hu
      cases e : l2[j]? with
      | none => rw [e] at hu; cases hu
      | some y =>
        rw [e] at hu
        injection hu with hu
        subst hu
        have hj : j < l2.length := (List.getElem?_eq_some_iff.1 e).1
        obtain ⟨b, o2, e2, _, hc⟩ := hA (by omega)
        injection e2 with e2
        subst e2
        rw [add_plain, hc j hj]
        simp [List.getD, e]
    · obtain ⟨y, _, rfl⟩ := List.mem_map.1 hu
      simp [Value.oneCell']
    · intro v' w' hown' hgrow _ _
      refine h v' w' ?_ (Below.grown (Below.refl _ _) hgrow hbase (fun k hk => (hown.lt k hk).1))
      unfold OI
      rw [List.length_append, List.map_append]
      exact hown'

def eqB (xs ys : List Int) : Bool := decide (xs = ys)
theorem getD_ext' {xs ys : List Int} (hl : xs.length = ys.length) (h : ∀ i, i < xs.length → xs.getD i 0 = ys.getD i 0) : xs = ys := by
  apply List.ext_getElem hl
  intro i h1 h2
  have := h i h1
  simpa [List.getD, h1, h2] using this
/-- Only the blocks T turned. -/
structure Turn (T : Nat → Prop) (w w' : World) : Prop where
  os : w'.os = w.os
  tape : w'.tape = w.tape
  output : w'.output = w.output
  size : w.heap.size ≤ w'.heap.size
  block : ∀ k, k < w.heap.size → ¬ T k → w'.heap[k]? = w.heap[k]?
theorem Turn.refl (T : Nat → Prop) (w : World) : Turn T w w := ⟨rfl, rfl, rfl, Nat.le_refl _, fun _ _ _ => rfl⟩
theorem Turn.below {T : Nat → Prop} {w w' : World} {B : Nat} (h : Turn T w w') (hT : ∀ k, T k → B ≤ k) (hB : B ≤ w.heap.size) : Below B w w' :=
  ⟨h.os, h.tape, h.output, h.size, fun k hk => h.block k (by omega) (fun hk2 => by have := hT k hk2; omega)⟩
theorem Turn.set {T : Nat → Prop} {w w' : World} (h : Turn T w w') (a : Addr) (v : Value) (ha : T a.block) : Turn T w (w'.setCell a v) :=
  ⟨h.os, h.tape, h.output, by simp; exact h.size, fun k hk hT => (Below.heap_setCell w' a v k (fun e => hT (by rw [e]; exact ha))).trans (h.block k hk hT)⟩
theorem Turn.drewN {T : Nat → Prop} {w w' : World} (h : Turn T w w') (j : Nat) : Turn T w (w'.drewN j) := ⟨h.os, h.tape, h.output, h.size, h.block⟩
/-- A block that stays keeps what lies there. -/
theorem Turn.cell {T : Nat → Prop} {w w' : World} (h : Turn T w w') {p : Addr} (hp : p.block < w.heap.size) (hT : ¬ T p.block) : w'.cell? p = w.cell? p := World.cell?_of_block (w := w) (h.block p.block hp hT)
theorem Turn.trans {T : Nat → Prop} {a b c : World} (h : Turn T a b) (k : Turn T b c) : Turn T a c :=
  ⟨k.os.trans h.os, k.tape.trans h.tape, k.output.trans h.output, Nat.le_trans h.size k.size, fun i hi hT => (k.block i (Nat.lt_of_lt_of_le hi h.size) hT).trans (h.block i hi hT)⟩
theorem Turn.of_below {T : Nat → Prop} {w w' : World} (h : Below w.heap.size w w') : Turn T w w' := ⟨h.os, h.tape, h.output, h.size, fun k hk _ => h.block k hk⟩
theorem Turn.then_below {T : Nat → Prop} {a b c : World} (h : Turn T a b) (k : Below a.heap.size b c) : Turn T a c :=
  ⟨k.os.trans h.os, k.tape.trans h.tape, k.output.trans h.output, Nat.le_trans h.size k.size, fun i hi hT => (k.block i hi).trans (h.block i hi hT)⟩
theorem IA.turn {T : Nat → Prop} {w w' : World} {A : Option Addr} {zs : List Int} (h : IA w A zs) (k : Turn T w w') (hT : ∀ a, A = some a → ¬ T a.block) : IA w' A zs := fun hn => by
  obtain ⟨b, off, e, hb, hc⟩ := h hn
  exact ⟨b, off, e, Nat.lt_of_lt_of_le hb k.size, fun i hi => (k.cell (p := ⟨b, off + i, none⟩) hb (hT ⟨b, off, none⟩ e)).trans (hc i hi)⟩
/-- A row of the call's own stays where its block does. -/
theorem OI.turn {T : Nat → Prop} {base : Nat} {w w' : World} {v : Value} {l : List Int} (h : OI base w v l) (k : Turn T w w') (hT : ∀ q, T q → q < base) : OI base w' v l := by
  obtain ⟨h1, h2⟩ := h
  refine ⟨h1, ?_⟩
  rcases h2 with h2 | ⟨g, cap, cur, e, hb, hg, r⟩
  · exact .inl h2
  · refine .inr ⟨g, cap, cur, e, hb, ?_, r⟩
    have hlt : g < w.heap.size := by
      rcases Nat.lt_or_ge g w.heap.size with hlt | hge
      · exact hlt
      · rw [Array.getElem?_eq_none hge] at hg; cases hg
    rw [k.block g hlt (fun hq => by have := hT g hq; omega)]
    exact hg
/-- The head of a row of the call's own. -/
theorem OI.head {base : Nat} {w : World} {A : Option Addr} {c m : Nat} {l : List Int} (h : OI base w (.slice A m c) l) (n : Nat) (hn : n ≤ l.length) : OI base w (.slice A n c) (l.take n) := by
  obtain ⟨h1, h2⟩ := h
  rcases h2 with ⟨e, h0⟩ | ⟨g, cap, cur, e, hb, hg, h3, h4, h5, h6⟩
  · have hn0 : n = 0 := by omega
    injection e with e1 e2 e3
    subst e1 e3 hn0
    exact World.ownsRow_nil _ _ _ _
  · injection e with e1 e2 e3
    subst e1 e3
    have hl : (l.take n).length = n := by simp; omega
    refine ⟨by simp, .inr ⟨g, c, cur, by rw [hl], hb, hg, by rw [hl]; omega, h4, h5, ?_⟩⟩
    rw [hl, List.map_take, ← h6, List.take_take]
    congr 1
    omega
theorem OI.below {base : Nat} {w w' : World} {v : Value} {l : List Int} (h : OI base w v l) (k : Below w.heap.size w w') : OI base w' v l := OI.turn (T := fun _ => False) h (Turn.of_below k) (fun _ h => h.elim)
end Go.Proofs.Ytophajljjnjcdaa
