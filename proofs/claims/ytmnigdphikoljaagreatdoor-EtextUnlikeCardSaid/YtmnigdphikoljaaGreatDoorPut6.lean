/- Contracts that the claim stands on, several texts in one: StructRows, EtReader, EtTake. -/
import Derived.Deep.AppendLies
import Derived.Deep.RegionHeld3
import Derived.Deep.Cut
import Derived.Lib.SmallJoins
import Derived.RangeFuncRecord
import Derived.Lib.AppendZeros
import Derived.Test.YtmnigdphikoljaaGreatDoorPut1
import Derived.Test.YtmnigdphikoljaaGreatDoorPut2
import Derived.Test.YtmnigdphikoljaaGreatDoorPut3
import Derived.Test.YtmnigdphikoljaaGreatDoorPut4
import Derived.Test.YtmnigdphikoljaaGreatDoorPut5
namespace Go.Proofs.YtmnigdphikoljaaGreatDoor.sr
open Go.ChangeShapes Go.WideShapes Go.ChangeAt Go.RowKit Go.Deep Go.Joins

section
variable {α : Type} (enc : α → List Value) (size : Nat)
def flatR (l : List α) : List Value := l.flatMap enc
variable {enc size}
theorem flatR_length (hsz : ∀ x, (enc x).length = size) : ∀ l : List α, (flatR enc l).length = l.length * size
  | [] => by simp [flatR]
  | x :: l => by
    have ih := flatR_length hsz l
    unfold flatR at ih ⊢
    rw [List.flatMap_cons, List.length_append, hsz, ih, List.length_cons, Nat.add_mul]
    omega
theorem flatR_append (l l2 : List α) : flatR enc (l ++ l2) = flatR enc l ++ flatR enc l2 := by unfold flatR; rw [List.flatMap_append]

variable [Inhabited α]
theorem flatR_get (hsz : ∀ x, (enc x).length = size) : ∀ (l : List α) (i j : Nat), i < l.length → j < size → (flatR enc l)[i * size + j]? = (enc (l.getD i default))[j]?
  | [], i, j, h, _ => absurd h (by simp)
  | x :: l, 0, j, _, hj => by
    unfold flatR
    rw [List.flatMap_cons, Nat.zero_mul, Nat.zero_add, List.getElem?_append_left (by rw [hsz]; exact hj)]
    rfl
  | x :: l, i + 1, j, h, hj => by
    have ih := flatR_get hsz l i j (by simpa using h) hj
    unfold flatR at ih ⊢
    rw [List.flatMap_cons, List.getElem?_append_right (by rw [hsz, Nat.add_mul]; omega), hsz, show (i + 1) * size + j - size = i * size + j by rw [Nat.add_mul]; omega, ih]
    rfl
variable (enc size)
/-- A slice of structs at address A (nil let in) reads as l. -/
def RS (w : World) (A : Option Addr) (l : List α) : Prop :=
  0 < l.length → ∃ b off, A = some ⟨b, off, none⟩ ∧ b < w.heap.size ∧ ∀ i, i < l.length → ∀ j, j < size → w.cell? ⟨b, off + i * size + j, none⟩ = (enc (l.getD i default))[j]?
/-- A row of the call's own that reads as l. -/
def OR (base : Nat) (e : TypeId) (w : World) (v : Value) (l : List α) : Prop := w.ownsRow base e size v l.length (flatR enc l)
variable {enc size}
theorem RS.below {w w' : World} {A : Option Addr} {l : List α} (h : RS enc size w A l) (hk : Below w.heap.size w w') : RS enc size w' A l := fun hn => by
  obtain ⟨b, off, e, hb, hc⟩ := h hn
  exact ⟨b, off, e, Nat.lt_of_lt_of_le hb hk.size, fun i hi j hj => (hk.cell (p := ⟨b, off + i * size + j, none⟩) hb).trans (hc i hi j hj)⟩
theorem RS.take {w : World} {A : Option Addr} {l : List α} (h : RS enc size w A l) (k : Nat) : RS enc size w A (l.take k) := fun hn => by
  rw [List.length_take] at hn
  obtain ⟨b, off, e, hb, hc⟩ := h (by omega)
  refine ⟨b, off, e, hb, fun i hi j hj => ?_⟩
  rw [List.length_take] at hi
  have q : (l.take k).getD i default = l.getD i default := by simp [List.getD, List.getElem?_take, show i < k by omega]
  rw [q]
  exact hc i (by omega) j hj
theorem OR.rs {base : Nat} {e : TypeId} {w : World} {v : Value} {l : List α} (hsz : ∀ x, (enc x).length = size) (h : OR enc size base e w v l) : ∃ A c, v = .slice A l.length c ∧ RS enc size w A l := by
  have h' : w.ownsRow base e size v l.length (flatR enc l) := h
  rcases ownsRow_forms h' with ⟨rfl, h0⟩ | ⟨g, cap, rfl⟩
  · exact ⟨none, 0, by rw [h0], fun hn => absurd hn (by omega)⟩
  · refine ⟨_, cap, rfl, fun hn => ⟨g, 0, rfl, (h'.lt g rfl).2, fun i hi j hj => ?_⟩⟩
    have hle : (i + 1) * size ≤ l.length * size := Nat.mul_le_mul_right _ hi
    rw [Nat.add_mul] at hle
    rw [Nat.zero_add, h'.cellAt (i * size + j) (by omega), flatR_get hsz l i j hi hj]
/-- A struct that was laid anew. -/
theorem RS.one {w : World} {x : α} {t : TypeId} {cs : Array Value} (hsz : ∀ x, (enc x).length = size) (h0 : 0 < size) (hcs : cs = (enc x).toArray) (k : Nat) (hk : w.heap[k]? = some (.cells cs t)) : RS enc size w (some ⟨k, 0, none⟩) [x] := fun _ => by
  refine ⟨k, 0, rfl, (Array.getElem?_eq_some_iff.1 hk).1, fun i hi j hj => ?_⟩
  have hi : i < 1 := hi
  obtain rfl : i = 0 := by omega
  subst hcs
  have hjl : j < (enc x).length := by rw [hsz]; exact hj
  have : w.cell? ⟨k, 0 + 0 * size + j, none⟩ = (enc x)[j]? := by
    simp [World.cell?, hk]
  exact this

variable {P : Program}
/-- append of what a slice reads as onto a row of the call's own: the run. -/
theorem run_append_rs {t e : TypeId} {z : Value} {bytes : Nat} (hsz : ∀ x, (enc x).length = size) (hone : ∀ x, ∀ u ∈ enc x, u.oneCell' = true) (ht : P.underlying t = some (.slice e)) (hi : (P.info? e).map (fun i => (i.zero, i.size, i.bytes)) = some (some z, size, bytes)) (hzs : z.cells.size = size) (h0 : 0 < size) (hby : bytes ≤ 100)
    {w : World} (base : Nat) (v : Value) (l : List α) (hown : OR enc size base e w v l) (A : Option Addr) (m c : Nat) (l2 : List α) (hm : m = l2.length) (hpos : 0 < m) (hA : RS enc size w A l2) (hlen : l.length + m ≤ 1000000) (hbase : base ≤ w.heap.size) :
    ∃ v' w', (Builtin.append_ #[t, t] t #[v, .slice A m c]).run P w = .ok v' w' ∧ OR enc size base e w' v' (l ++ l2) ∧ w.grownBy w' v.ownBlock := by
  obtain ⟨i0, hi0, hz0, hz1, hz2⟩ := info_parts hi
  subst hm
  obtain ⟨b, off, rfl, hb, hc⟩ := hA hpos
  obtain ⟨v', w', hr, h2, h3, _, _⟩ := run_append_own_at (P := P) w base t t e i0 z size bytes ht hi0 hz0 hz1 hz2 hzs h0 v l.length _ hown ⟨b, off, none⟩ l2.length c (flatR enc l2) (flatR_length hsz l2) (fun j u hu => by
    have hj : j < l2.length * size := by rw [← flatR_length hsz l2]; exact (List.getElem?_eq_some_iff.1 hu).1
    have hd : j / size < l2.length := (Nat.div_lt_iff_lt_mul h0).2 hj
    have hm2 : j % size < size := Nat.mod_lt _ h0
    have hjj : j / size * size + j % size = j := Nat.div_add_mod' j size
    have h5 := flatR_get hsz l2 _ _ hd hm2
    rw [hjj, hu] at h5
    rw [add_plain, show off + j = off + j / size * size + j % size by omega, hc _ hd _ hm2, ← h5]) (fun u hu => by
    obtain ⟨x, _, hx⟩ := List.mem_flatMap.1 hu
    exact hone x u hx) (by unfold maxLen; omega) (by
    have : (l.length + l2.length) * bytes ≤ 1000000 * 100 := Nat.mul_le_mul hlen hby
    omega) hbase
  refine ⟨v', w', hr, ?_, h3⟩
  unfold OR
  rw [List.length_append, flatR_append]
  exact h2
/-- An append whose run is known, at a step of a region that draws its order. -/
theorem step_append_at {w w' : World} {ops : Array Oper} {o : Oper} {a : Act} {K : Act → World → Prop} {Q : Exit → Act → World → Prop} {E : Prop} {t : TypeId} {v u v' : Value} (hgd : o.guard = none) (s x : Operand)
    (ho : o.op = .call { callee := .builtin .append, args := #[s, x], argTypes := #[t, t] }) (hty : o.type = t) (hs : a.eval s = v) (hx : a.eval x = u)
    (hr : (Builtin.append_ #[t, t] t #[v, u]).run P w = .ok v' w') (h : K (a.put o.dst v') w') :
    if Region.wanted o (yielded ops a.tmps) = true then Oper.wp P o a w K Q else E := by
  have hw : Region.wanted o (yielded ops a.tmps) = true := by simp [Region.wanted, hgd]
  rw [if_pos hw]
  unfold Oper.wp execOp
  simp only [ho, resolve, invoke, builtin, Sem.run_bind, Sem.run_pure, Result.andThen_ok, List.map_toArray, List.map_cons, List.map_nil, hs, hx, hty, hr]
  exact h
/-- The first append: of all of a slice onto a row that holds nothing. -/
theorem step_append_first {t e : TypeId} {z : Value} {bytes : Nat} (hsz : ∀ x, (enc x).length = size) (hone : ∀ x, ∀ u ∈ enc x, u.oneCell' = true) (ht : P.underlying t = some (.slice e)) (hi : (P.info? e).map (fun i => (i.zero, i.size, i.bytes)) = some (some z, size, bytes)) (hzs : z.cells.size = size) (h0 : 0 < size) (hby : bytes ≤ 100)
    {w : World} {ops : Array Oper} {o : Oper} {a : Act} {K : Act → World → Prop} {Q : Exit → Act → World → Prop} {E : Prop} (base H : Nat) (hgd : o.guard = none) (s x : Operand)
    (ho : o.op = .call { callee := .builtin .append, args := #[s, x], argTypes := #[t, t] }) (hty : o.type = t) (hs : a.eval s = .slice (some ⟨H, 0, none⟩) 0 0) (l : List α) (A : Option Addr) (m c : Nat) (hx : a.eval x = .slice A m c) (hm : m = l.length) (hpos : 0 < m) (hA : RS enc size w A l) (hlen : m ≤ 1000) (hbase : base ≤ H) (hH : w.heap[H]? = some (.cells #[] e))
    (h : ∀ v' w', OR enc size base e w' v' l → w.grownBy w' (some H) → K (a.put o.dst v') w') :
    if Region.wanted o (yielded ops a.tmps) = true then Oper.wp P o a w K Q else E := by
  have hlt := (Array.getElem?_eq_some_iff.1 hH).1
  obtain ⟨v', w', hr, h2, h3⟩ := run_append_rs hsz hone ht hi hzs h0 hby (w := w) base (.slice (some ⟨H, 0, none⟩) 0 0) [] ⟨by simp [flatR], .inr ⟨H, 0, #[], rfl, hbase, hH, Nat.le_refl _, Nat.zero_le _, by simp, by simp [flatR]⟩⟩ A m c l hm hpos hA (by simp; omega) (by omega)
  exact step_append_at hgd s x ho hty hs hx hr (h v' w' h2 h3)
/-- The second: of one more. -/
theorem step_append_more {t e : TypeId} {z : Value} {bytes : Nat} (hsz : ∀ x, (enc x).length = size) (hone : ∀ x, ∀ u ∈ enc x, u.oneCell' = true) (ht : P.underlying t = some (.slice e)) (hi : (P.info? e).map (fun i => (i.zero, i.size, i.bytes)) = some (some z, size, bytes)) (hzs : z.cells.size = size) (h0 : 0 < size) (hby : bytes ≤ 100)
    {w : World} {ops : Array Oper} {o : Oper} {a : Act} {K : Act → World → Prop} {Q : Exit → Act → World → Prop} {E : Prop} (base H : Nat) (hgd : o.guard = none) (s x : Operand)
    (ho : o.op = .call { callee := .builtin .append, args := #[s, x], argTypes := #[t, t] }) (hty : o.type = t) (v : Value) (l : List α) (hs : a.eval s = v) (hown : OR enc size base e w v l) (y : α) (cs : Array Value) (hcs : cs = (enc y).toArray) (hx : a.eval x = .slice (some ⟨H, 0, none⟩) 1 1) (hlen : l.length ≤ 1000) (hbase : base ≤ w.heap.size) (t2 : TypeId) (hH : w.heap[H]? = some (.cells cs t2)) (n : Nat) (hn : l.length + 1 = n)
    (h : ∀ A' c' w', RS enc size w' A' (l ++ [y]) → Below base w w' → K (a.put o.dst (.slice A' n c')) w') :
    if Region.wanted o (yielded ops a.tmps) = true then Oper.wp P o a w K Q else E := by
  obtain ⟨v', w', hr, h2, h3⟩ := run_append_rs hsz hone ht hi hzs h0 hby (w := w) base v l hown (some ⟨H, 0, none⟩) 1 1 [y] rfl (by decide) (RS.one hsz h0 hcs H hH) (by omega) hbase
  obtain ⟨A', c', rfl, h4⟩ := OR.rs hsz h2
  rw [List.length_append, List.length_singleton, hn] at hr
  exact step_append_at hgd s x ho hty hs hx hr (h A' c' w' h4 (Below.grown (Below.refl _ _) h3 hbase (fun k hk => (World.ownsRow.lt hown k hk).1)))
/-- One struct more onto a row of the call's own, at a step of a region that draws its order. -/
theorem step_append_own {t e : TypeId} {z : Value} {bytes : Nat} (hsz : ∀ x, (enc x).length = size) (hone : ∀ x, ∀ u ∈ enc x, u.oneCell' = true) (ht : P.underlying t = some (.slice e)) (hi : (P.info? e).map (fun i => (i.zero, i.size, i.bytes)) = some (some z, size, bytes)) (hzs : z.cells.size = size) (h0 : 0 < size) (hby : bytes ≤ 100)
    {w : World} {ops : Array Oper} {o : Oper} {a : Act} {K : Act → World → Prop} {Q : Exit → Act → World → Prop} {E : Prop} (base H : Nat) (hgd : o.guard = none) (s x : Operand)
    (ho : o.op = .call { callee := .builtin .append, args := #[s, x], argTypes := #[t, t] }) (hty : o.type = t) (v : Value) (l : List α) (hs : a.eval s = v) (hown : OR enc size base e w v l) (y : α) (cs : Array Value) (hcs : cs = (enc y).toArray) (hx : a.eval x = .slice (some ⟨H, 0, none⟩) 1 1) (hlen : l.length ≤ 100000) (hbase : base ≤ w.heap.size) (t2 : TypeId) (hH : w.heap[H]? = some (.cells cs t2))
    (h : ∀ v' w', OR enc size base e w' v' (l ++ [y]) → Below base w w' → w.grownBy w' v.ownBlock → K (a.put o.dst v') w') :
    if Region.wanted o (yielded ops a.tmps) = true then Oper.wp P o a w K Q else E := by
  obtain ⟨v', w', hr, h2, h3⟩ := run_append_rs hsz hone ht hi hzs h0 hby (w := w) base v l hown (some ⟨H, 0, none⟩) 1 1 [y] rfl (by decide) (RS.one hsz h0 hcs H hH) (by omega) hbase
  exact step_append_at hgd s x ho hty hs hx hr (h v' w' h2 (Below.grown (Below.refl _ _) h3 hbase (fun k hk => (World.ownsRow.lt hown k hk).1)) h3)
/-- .. in a region that keeps its order. -/
theorem list_append_own {t e : TypeId} {z : Value} {bytes : Nat} (hsz : ∀ x, (enc x).length = size) (hone : ∀ x, ∀ u ∈ enc x, u.oneCell' = true) (ht : P.underlying t = some (.slice e)) (hi : (P.info? e).map (fun i => (i.zero, i.size, i.bytes)) = some (some z, size, bytes)) (hzs : z.cells.size = size) (h0 : 0 < size) (hby : bytes ≤ 100)
    {w : World} {ops : Array Oper} {rest : List Oper} {o : Oper} {a : Act} {Q : Exit → Act → World → Prop} (base H : Nat) (hgd : o.guard = none) (s x : Operand)
    (ho : o.op = .call { callee := .builtin .append, args := #[s, x], argTypes := #[t, t] }) (hty : o.type = t) (v : Value) (l : List α) (hs : a.eval s = v) (hown : OR enc size base e w v l) (y : α) (cs : Array Value) (hcs : cs = (enc y).toArray) (hx : a.eval x = .slice (some ⟨H, 0, none⟩) 1 1) (hlen : l.length ≤ 100000) (hbase : base ≤ w.heap.size) (t2 : TypeId) (hH : w.heap[H]? = some (.cells cs t2))
    (h : ∀ v' w', OR enc size base e w' v' (l ++ [y]) → Below base w w' → w.grownBy w' v.ownBlock → wpList P ops Q rest (a.put o.dst v') w') :
    wpList P ops Q (o :: rest) a w := by
  obtain ⟨v', w', hr, h2, h3⟩ := run_append_rs hsz hone ht hi hzs h0 hby (w := w) base v l hown (some ⟨H, 0, none⟩) 1 1 [y] rfl (by decide) (RS.one hsz h0 hcs H hH) (by omega) hbase
  exact Lib.wpList_append_run w hgd s x t t ho v _ hs hx _ w' (by rw [hty]; exact hr) (h v' w' h2 (Below.grown (Below.refl _ _) h3 hbase (fun k hk => (World.ownsRow.lt hown k hk).1)) h3)
end
theorem OR.below {α : Type} {enc : α → List Value} {size : Nat} {base : Nat} {e : TypeId} {w w' : World} {v : Value} {l : List α} (h : OR enc size base e w v l) (hb : Below w.heap.size w w') : OR enc size base e w' v l := by
  refine World.ownsRow.kept (row := none) h ⟨hb.os, hb.tape, hb.output, hb.size, fun k hk _ => hb.block k hk⟩ ?_
  rcases hv : v.ownBlock with _ | g
  · exact .inl rfl
  · exact .inr (fun e => by cases e)
theorem OR.mono {α : Type} {enc : α → List Value} {size : Nat} {base base' : Nat} {e : TypeId} {w : World} {v : Value} {l : List α} (h : OR enc size base e w v l) (hb : base' ≤ base) : OR enc size base' e w v l := Go.Joins.ownsRow_le h hb

theorem far_cell {w4 W w5 : World} {H b o : Nat} {v : Value} (hB : Below w4.heap.size w4 W) (hg : W.grownBy w5 (some H)) (hH : w4.heap.size ≤ H) (hb : b < w4.heap.size) (hc : w4.cell? ⟨b, o, none⟩ = some v) : w5.cell? ⟨b, o, none⟩ = some v :=
  (hg.cell_far ⟨b, o, none⟩ (Nat.lt_of_lt_of_le hb hB.size) (fun e => by have e : b = H := Option.some.inj e; omega)).trans ((hB.cell (p := ⟨b, o, none⟩) hb).trans hc)
theorem below_far {w4 W w5 : World} {H : Nat} (hB : Below w4.heap.size w4 W) (hg : W.grownBy w5 (some H)) (hH : w4.heap.size ≤ H) : Below w4.heap.size w4 w5 := Below.grown hB hg hB.size (fun k e => by cases e; exact hH)
theorem heap_prev (w : World) (o o2 : Obj) : ((w.alloc o).alloc o2).heap[w.heap.size]? = some o := (Below.heap_alloc _ _ _ (by simp)).trans (World.alloc_heap_new w o)
theorem heap_next (w : World) (o o2 : Obj) : ((w.alloc o).alloc o2).heap[w.heap.size + 1]? = some o2 := by
  have := World.alloc_heap_new (w.alloc o) o2
  rwa [World.size_alloc] at this

end Go.Proofs.YtmnigdphikoljaaGreatDoor.sr
namespace Go.Proofs.YtmnigdphikoljaaGreatDoor.et
open Go.ChangeShapes Go.WideShapes Go.ChangeAt Go.RowKit Go.Deep

def tokC (t : lx.Tok) : List Value := [.int .i64 (t.kind : Nat), .int .i64 t.num, .int .i64 (t.pos : Nat), .string t.text]
def tokV (t : lx.Tok) : Value := .agg #[.int .i64 (t.kind : Nat), .int .i64 t.num, .int .i64 (t.pos : Nat), .string t.text]
instance : Inhabited lx.Tok := ⟨⟨0, 0, 0, ⟨#[]⟩⟩⟩
/-- A reader's cells. -/
def rcF (A : Option Addr) (n c en : Nat) (X : ScX) (V : Value) (pl why : Int) : Nat → Value
  | 0 => .slice A n c
  | 1 => .int .i64 (en : Nat)
  | 2 => .slice X.a1 X.n1 X.c1
  | 3 => .slice X.a2 X.n2 X.c2
  | 4 => .slice X.a3 X.n3 X.c3
  | 5 => .slice X.a4 X.n4 X.c4
  | 6 => .slice X.a5 X.n5 X.c5
  | 7 => .int .i64 X.self
  | 8 => V
  | 9 => .int .i64 pl
  | _ => .int .i64 why
/-- What stays of a reader: the world ahead of it, its block, the scope, its names, the text's end, what reads an expression. -/
structure Fx where
  w0 : World
  b : Nat
  X : ScX
  N : Nm
  en : Nat
  V : Value
structure RdA (F : Fx) (w : World) (st : St) (A : Option Addr) (c : Nat) : Prop where
  row : w.rowIs F.b 112 11 (rcF A st.ts.length c F.en F.X F.V st.pl st.why)
  toks : sr.RS tokC 4 F.w0 A st.ts
  cap : st.ts.length ≤ c
  hb : F.w0.heap.size ≤ F.b
  below : Below F.w0.heap.size F.w0 w
  nm : NmR F.w0 F.X F.N
  num : ∀ t ∈ st.ts, -2000000 ≤ t.num ∧ t.num ≤ 2000000
  most : st.ts.length ≤ 6000
  lens : ∀ op l, nmOf F.N op = some l → l.length ≤ 1000000
  txt : ∀ t ∈ st.ts, t.text.size ≤ 20000
def Rdr (F : Fx) (w : World) (st : St) : Prop := ∃ A c, RdA F w st A c
/-- Only the reader's block turns. -/
abbrev Tn (F : Fx) : World → World → Prop := Turn (fun k => k = F.b)
theorem RdA.lt {F : Fx} {w : World} {st : St} {A : Option Addr} {c : Nat} (h : RdA F w st A c) : F.b < w.heap.size := by
  obtain ⟨cs, hc, _⟩ := h.row
  exact (Array.getElem?_eq_some_iff.1 hc).1
theorem RdA.next {F : Fx} {w w' : World} {st : St} {A : Option Addr} {c : Nat} (h : RdA F w st A c) (k : Below w.heap.size w w') : RdA F w' st A c :=
  ⟨h.row.of_block (k.block _ h.lt), h.toks, h.cap, h.hb, h.below.trans (k.mono h.below.size), h.nm, h.num, h.most, h.lens, h.txt⟩
theorem Rdr.next {F : Fx} {w w' : World} {st : St} (h : Rdr F w st) (k : Below w.heap.size w w') : Rdr F w' st := by
  obtain ⟨A, c, h⟩ := h
  exact ⟨A, c, h.next k⟩
theorem RdA.cell {F : Fx} {w : World} {st : St} {A : Option Addr} {c : Nat} (h : RdA F w st A c) (i : Nat) (hi : i < 11) : w.cell? ⟨F.b, i, none⟩ = some (rcF A st.ts.length c F.en F.X F.V st.pl st.why i) := h.row.cell hi

theorem RdA.s0 {F : Fx} {w : World} {st : St} {A : Option Addr} {c : Nat} (h : RdA F w st A c) : w.cell? ⟨F.b, 0, none⟩ = some (.slice A st.ts.length c) := h.row.cell (i := 0) (by decide)
theorem RdA.s1 {F : Fx} {w : World} {st : St} {A : Option Addr} {c : Nat} (h : RdA F w st A c) : w.cell? ⟨F.b, 1, none⟩ = some (.int .i64 (F.en : Nat)) := h.row.cell (i := 1) (by decide)
theorem RdA.s2 {F : Fx} {w : World} {st : St} {A : Option Addr} {c : Nat} (h : RdA F w st A c) : w.cell? ⟨F.b, 2, none⟩ = some (.slice F.X.a1 F.X.n1 F.X.c1) := h.row.cell (i := 2) (by decide)
theorem RdA.s3 {F : Fx} {w : World} {st : St} {A : Option Addr} {c : Nat} (h : RdA F w st A c) : w.cell? ⟨F.b, 3, none⟩ = some (.slice F.X.a2 F.X.n2 F.X.c2) := h.row.cell (i := 3) (by decide)
theorem RdA.s4 {F : Fx} {w : World} {st : St} {A : Option Addr} {c : Nat} (h : RdA F w st A c) : w.cell? ⟨F.b, 4, none⟩ = some (.slice F.X.a3 F.X.n3 F.X.c3) := h.row.cell (i := 4) (by decide)
theorem RdA.s5 {F : Fx} {w : World} {st : St} {A : Option Addr} {c : Nat} (h : RdA F w st A c) : w.cell? ⟨F.b, 5, none⟩ = some (.slice F.X.a4 F.X.n4 F.X.c4) := h.row.cell (i := 5) (by decide)
theorem RdA.s6 {F : Fx} {w : World} {st : St} {A : Option Addr} {c : Nat} (h : RdA F w st A c) : w.cell? ⟨F.b, 6, none⟩ = some (.slice F.X.a5 F.X.n5 F.X.c5) := h.row.cell (i := 6) (by decide)
theorem RdA.s7 {F : Fx} {w : World} {st : St} {A : Option Addr} {c : Nat} (h : RdA F w st A c) : w.cell? ⟨F.b, 7, none⟩ = some (.int .i64 F.X.self) := h.row.cell (i := 7) (by decide)
theorem RdA.s8 {F : Fx} {w : World} {st : St} {A : Option Addr} {c : Nat} (h : RdA F w st A c) : w.cell? ⟨F.b, 8, none⟩ = some F.V := h.row.cell (i := 8) (by decide)
theorem RdA.s9 {F : Fx} {w : World} {st : St} {A : Option Addr} {c : Nat} (h : RdA F w st A c) : w.cell? ⟨F.b, 9, none⟩ = some (.int .i64 st.pl) := h.row.cell (i := 9) (by decide)
theorem RdA.s10 {F : Fx} {w : World} {st : St} {A : Option Addr} {c : Nat} (h : RdA F w st A c) : w.cell? ⟨F.b, 10, none⟩ = some (.int .i64 st.why) := h.row.cell (i := 10) (by decide)

set_option maxRecDepth 20000 in
theorem isSign_any (t : lx.Tok) (s : ByteArray) (w : World) : Calls Tryz.prog 141 #[tokV t, .string s] w fun e w' => e = .returned (.bool (sgB t s)) ∧ Below w.heap.size w w' := by
  obtain ⟨k, n, p, x⟩ := t
  unfold tokV
  dsimp only
  by_cases h3 : k = 3
  · subst h3
    have HE : Hid (sgB ⟨3, n, p, x⟩ s = (x.toList == s.toList)) := Lib.hid (by unfold sgB; simp)
    go_enter Tryz.func141, Tryz.ntmps141
    go_wp2
    go_ret
    exact ⟨by rw [HE.out]; rfl, below_alloc1 _ _⟩
  · have HE : Hid (sgB ⟨k, n, p, x⟩ s = false) := Lib.hid (by unfold sgB; rw [decide_eq_false (by exact h3)]; rfl)
    have h4 : ¬ (k : Int) = 3 := by omega
    go_enter Tryz.func141, Tryz.ntmps141
    go_wp2
    go_ret
    exact ⟨by rw [HE.out]; rfl, below_alloc1 _ _⟩

/-- What a call of the reader's leaves. -/
def StP (F : Fx) (w : World) (st : St) (w' : World) : Prop := Rdr F w' st ∧ Tn F w w'
theorem StP.below {F : Fx} {w w1 w' : World} {st : St} (hb : Below w.heap.size w w1) (h : StP F w1 st w') : StP F w st w' := ⟨h.1, (Turn.of_below hb).trans h.2⟩
theorem StP.trans {F : Fx} {w w1 w' : World} {s1 st : St} (h1 : StP F w s1 w1) (h : StP F w1 st w') : StP F w st w' := ⟨h.1, h1.2.trans h.2⟩
theorem StP.next {F : Fx} {w w1 w' : World} {st : St} (h : StP F w st w1) (hb : Below w1.heap.size w1 w') : StP F w st w' := ⟨h.1.next hb, h.2.trans (Turn.of_below hb)⟩
theorem tn_set {F : Fx} {w w' : World} (h : Tn F w w') (i : Nat) (v : Value) : Tn F w (w'.setCell ⟨F.b, i, none⟩ v) := Turn.set h ⟨F.b, i, none⟩ v rfl
theorem rows_fail {F : Fx} {w : World} {st : St} {A : Option Addr} {c : Nat} (h : RdA F w st A c) (p y : Int) : RdA F (((w.setCell ⟨F.b, 9, none⟩ (.int .i64 p)).setCell ⟨F.b, 10, none⟩ (.int .i64 y)).setCell ⟨F.b, 0, none⟩ (.slice none 0 0)) ⟨[], p, y⟩ none 0 := by
  have T : Tn F w (((w.setCell ⟨F.b, 9, none⟩ (.int .i64 p)).setCell ⟨F.b, 10, none⟩ (.int .i64 y)).setCell ⟨F.b, 0, none⟩ (.slice none 0 0)) := tn_set (tn_set (tn_set (Turn.refl _ w) 9 _) 10 _) 0 _
  refine ⟨(((h.row.set 9 _).set 10 _).set 0 _).congr (fun j hj => ?_), fun hn => absurd hn (by simp), Nat.le_refl _, h.hb, h.below.trans (T.below (B := F.w0.heap.size) (fun k e => by rw [e]; exact h.hb) h.below.size), h.nm, (fun t ht => absurd ht (by simp)), Nat.zero_le _, h.lens, (fun t ht => absurd ht (by simp))⟩
  match j with
  | 0 => rfl
  | 1 => rfl
  | 2 => rfl
  | 3 => rfl
  | 4 => rfl
  | 5 => rfl
  | 6 => rfl
  | 7 => rfl
  | 8 => rfl
  | 9 => rfl
  | 10 => rfl
  | j + 11 => omega
set_option maxRecDepth 20000 in
theorem fail_any (F : Fx) (st : St) (t : lx.Tok) (y : Int) (w : World) (h : Rdr F w st) : Calls Tryz.prog 65 #[.pointer (some ⟨F.b, 0, none⟩), tokV t, .int .i64 y] w fun e w' => (∃ r, e = .returned r) ∧ StP F w (st.fail t.pos y) w' := by
  obtain ⟨A, c, h⟩ := h
  obtain ⟨k, n, p, x⟩ := t
  unfold tokV
  dsimp only
  have hb1 := below_alloc1 w (.cells #[.int .i64 (k : Nat), .int .i64 n, .int .i64 (p : Nat), .string x] 107)
  have H1 := Lib.hid (h.next hb1)
  have c10 := H1.out.cell 10 (by decide)
  obtain ⟨y0, HY⟩ : ∃ y0, Hid (st.why = y0) := ⟨_, Lib.hid rfl⟩
  obtain ⟨b, HB⟩ : ∃ b, Hid (F.b = b) := ⟨_, Lib.hid rfl⟩
  rw [HB.out, show rcF A st.ts.length c F.en F.X F.V st.pl st.why 10 = .int .i64 st.why from rfl, HY.out] at c10
  rw [HB.out]
  by_cases h0 : y0 = 0
  · subst h0
    have HS : Hid (st.fail (p : Nat) y = ⟨[], (p : Nat), y⟩) := Lib.hid (by unfold St.fail; rw [if_pos HY.out])
    have R1 := H1.out.row
    have c9 := R1.cell (i := 9) (by decide)
    have c0 := R1.cell (i := 0) (by decide)
    have f9 := R1.frozen 9
    have R2 := R1.set 9 (.int .i64 (p : Nat))
    have d10 := R2.cell (i := 10) (by decide)
    have f10 := R2.frozen 10
    have R3 := R2.set 10 (.int .i64 y)
    have d0 := R3.cell (i := 0) (by decide)
    have f0 := R3.frozen 0
    have HW : Hid (StP F w ⟨[], (p : Nat), y⟩ _) := Lib.hid ⟨⟨none, 0, rows_fail H1.out (p : Nat) y⟩, (Turn.of_below hb1).trans (tn_set (tn_set (tn_set (Turn.refl _ _) 9 _) 10 _) 0 _)⟩
    rw [HB.out] at HW c9 c0 f9 d10 f10 d0 f0
    clear R1 R2 R3 h hb1
    go_enter Tryz.func65, Tryz.ntmps65
    go_wp2
    go_end0
    refine ⟨⟨_, rfl⟩, ?_⟩
    rw [HS.out]
    exact HW.out
  · have HS : Hid (st.fail (p : Nat) y = st) := Lib.hid (by unfold St.fail; rw [if_neg (by rw [HY.out]; exact h0)])
    have HW : Hid (StP F w st _) := Lib.hid ⟨⟨A, c, H1.out⟩, Turn.of_below hb1⟩
    clear h hb1
    go_enter Tryz.func65, Tryz.ntmps65
    go_wp2
    go_end0
    refine ⟨⟨_, rfl⟩, ?_⟩
    rw [HS.out]
    exact HW.out

/-- A token in a box. -/
def TB (w : World) (g : Nat) (t : lx.Tok) : Prop := w.heap[g]? = some (.cells #[.int .i64 (t.kind : Nat), .int .i64 t.num, .int .i64 (t.pos : Nat), .string t.text] 107 (0, 0))
theorem TB.lt {w : World} {g : Nat} {t : lx.Tok} (h : TB w g t) : g < w.heap.size := (Array.getElem?_eq_some_iff.1 h).1
theorem TB.keep {w w' : World} {g : Nat} {t : lx.Tok} (h : TB w g t) (k : Below w.heap.size w w') : TB w' g t := (k.block _ h.lt).trans h
theorem TB.turn {F : Fx} {w w' : World} {g : Nat} {t : lx.Tok} (h : TB w g t) (k : Tn F w w') (hg : g ≠ F.b) : TB w' g t := (k.block _ h.lt hg).trans h
theorem TB.c0 {w : World} {g : Nat} {t : lx.Tok} (h : TB w g t) : w.cell? ⟨g, 0, none⟩ = some (.int .i64 (t.kind : Nat)) := by unfold TB at h; simp [World.cell?, h]
theorem TB.c1 {w : World} {g : Nat} {t : lx.Tok} (h : TB w g t) : w.cell? ⟨g, 1, none⟩ = some (.int .i64 t.num) := by unfold TB at h; simp [World.cell?, h]
theorem TB.c2 {w : World} {g : Nat} {t : lx.Tok} (h : TB w g t) : w.cell? ⟨g, 2, none⟩ = some (.int .i64 (t.pos : Nat)) := by unfold TB at h; simp [World.cell?, h]
theorem TB.c3 {w : World} {g : Nat} {t : lx.Tok} (h : TB w g t) : w.cell? ⟨g, 3, none⟩ = some (.string t.text) := by unfold TB at h; simp [World.cell?, h]
theorem TB.fz {w : World} {g : Nat} {t : lx.Tok} (h : TB w g t) (i : Nat) : w.frozen? ⟨g, i, none⟩ = false := by unfold TB at h; simp [World.frozen?, h]
theorem TB.new (w : World) (t : lx.Tok) : TB (w.alloc (.cells #[.int .i64 (t.kind : Nat), .int .i64 t.num, .int .i64 (t.pos : Nat), .string t.text] 107)) w.heap.size t := World.alloc_heap_new w _
/-- Another token stored there. -/
def putT (w : World) (g : Nat) (t : lx.Tok) : World := (((w.setCell ⟨g, 0, none⟩ (.int .i64 (t.kind : Nat))).setCell ⟨g, 1, none⟩ (.int .i64 t.num)).setCell ⟨g, 2, none⟩ (.int .i64 (t.pos : Nat))).setCell ⟨g, 3, none⟩ (.string t.text)
theorem TB.put {w : World} {g : Nat} {t : lx.Tok} (h : TB w g t) (u : lx.Tok) : TB (putT w g u) g u := by
  unfold TB at *
  unfold putT
  simp [World.setCell, Array.getElem?_modify, h]
theorem StP.put1 {F : Fx} {w w' : World} {st : St} {g : Nat} (h : StP F w st w') (hl : F.b < w.heap.size) (hg : w.heap.size ≤ g) (i : Nat) (v : Value) : StP F w st (w'.setCell ⟨g, i, none⟩ v) := by
  obtain ⟨⟨A, c, h1⟩, h2⟩ := h
  have hne : F.b ≠ g := by omega
  have hb := h1.hb
  refine ⟨⟨A, c, ⟨h1.row.setOther (a := ⟨g, i, none⟩) hne v, h1.toks, h1.cap, h1.hb, ?_, h1.nm, h1.num, h1.most, h1.lens, h1.txt⟩⟩, ?_⟩
  · exact ⟨h1.below.os, h1.below.tape, h1.below.output, by simpa [World.setCell] using h1.below.size, fun k hk => (Below.heap_setCell w' ⟨g, i, none⟩ v k (by show k ≠ g; omega)).trans (h1.below.block k hk)⟩
  · exact ⟨h2.os, h2.tape, h2.output, by simpa [World.setCell] using h2.size, fun k hk hn => (Below.heap_setCell w' ⟨g, i, none⟩ v k (by show k ≠ g; omega)).trans (h2.block k hk hn)⟩
theorem StP.put {F : Fx} {w w' : World} {st : St} {g : Nat} (h : StP F w st w') (hl : F.b < w.heap.size) (hg : w.heap.size ≤ g) (u : lx.Tok) : StP F w st (putT w' g u) := by
  unfold putT
  exact (((h.put1 hl hg 0 _).put1 hl hg 1 _).put1 hl hg 2 _).put1 hl hg 3 _
end Go.Proofs.YtmnigdphikoljaaGreatDoor.et
namespace Go.Proofs.YtmnigdphikoljaaGreatDoor.et
open Go.ChangeShapes Go.WideShapes Go.ChangeAt Go.RowKit Go.Deep

theorem tokC_len (t : lx.Tok) : (tokC t).length = 4 := rfl
set_option maxRecDepth 20000 in
/-- The tail of a slice of tokens. -/
theorem tailT_run (B : Option Addr) (t d : Nat) (hd : t + 1 ≤ d) : ∃ B2, B2 = (if d = 1 then B else B.map (·.add 4)) ∧ ∀ W, (Instr.sliceAt 58 (.slice B (1 + t) d) (some (.int .i64 1)) none none).run Tryz.prog W = .ok (.slice B2 t (d - 1)) W := by
  refine ⟨_, rfl, fun W => ?_⟩
  have hsz : (sizeOf (Tryz.prog.elem 58)).run Tryz.prog W = .ok 4 W := by simp [go_sem]
  rw [run_sliceAt_slice (P := Tryz.prog) W 58 _ _ _ _ Tryz.underlying58, run_slice_l (P := Tryz.prog) W 58 B (1 + t) d Tryz.underlying58 .i64 1 (by omega) (by omega), hsz]
  simp [Result.andThen, sliced]
theorem tailT_rs {w : World} {A : Option Addr} {t : lx.Tok} {l : List lx.Tok} {d : Nat} (h : sr.RS tokC 4 w A (t :: l)) (hd : l.length + 1 ≤ d) : sr.RS tokC 4 w (if d = 1 then A else A.map (·.add 4)) l := fun h0 => by
  obtain ⟨b, off, rfl, hb, hc⟩ := h (by simp)
  rw [if_neg (by omega)]
  refine ⟨b, off + 4, by simp [Addr.add], hb, fun i hi j hj => ?_⟩
  have := hc (i + 1) (by simp; omega) j hj
  rw [show off + 4 + i * 4 + j = off + (i + 1) * 4 + j by omega, this]
  rfl
/-- The first token as it lies. -/
theorem RdA.head {F : Fx} {w : World} {st : St} {A : Option Addr} {c : Nat} (h : RdA F w st A c) {t : lx.Tok} {r : List lx.Tok} (ht : st.ts = t :: r) : ∃ tb off, A = some ⟨tb, off, none⟩ ∧ tb < w.heap.size ∧ tb ≠ F.b ∧ w.cell? ⟨tb, off, none⟩ = some (.int .i64 (t.kind : Nat)) ∧ w.cell? ⟨tb, off + 1, none⟩ = some (.int .i64 t.num) ∧ w.cell? ⟨tb, off + 2, none⟩ = some (.int .i64 (t.pos : Nat)) ∧ w.cell? ⟨tb, off + 3, none⟩ = some (.string t.text) := by
  have h1 := h.toks
  rw [ht] at h1
  obtain ⟨b, off, e, hb, hc⟩ := h1 (by simp)
  have g : ∀ j, j < 4 → w.cell? ⟨b, off + j, none⟩ = (tokC t)[j]? := fun j hj => by
    have := hc 0 (by simp) j hj
    rw [show off + 0 * 4 + j = off + j by omega] at this
    rw [h.below.cell (p := ⟨b, off + j, none⟩) hb]
    exact this
  have hbb := h.hb
  have hsz := h.below.size
  exact ⟨b, off, e, by omega, by omega, g 0 (by decide), g 1 (by decide), g 2 (by decide), g 3 (by decide)⟩
theorem rows_take {F : Fx} {w : World} {st : St} {A : Option Addr} {c : Nat} (h : RdA F w st A c) {t : lx.Tok} {r : List lx.Tok} (ht : st.ts = t :: r) : RdA F (w.setCell ⟨F.b, 0, none⟩ (.slice (if c = 1 then A else A.map (·.add 4)) r.length (c - 1))) ⟨r, st.pl, st.why⟩ (if c = 1 then A else A.map (·.add 4)) (c - 1) := by
  have hcap := h.cap
  have h1 := h.toks
  rw [ht] at h1 hcap
  refine ⟨(h.row.set 0 _).congr (fun j hj => ?_), tailT_rs h1 (by simpa using hcap), by simp at hcap; show r.length ≤ c - 1; omega, h.hb, h.below.trans ((tn_set (Turn.refl _ w) 0 _ : Tn F w _).below (B := F.w0.heap.size) (fun k e => by rw [e]; exact h.hb) h.below.size), h.nm, fun u hu => h.num u (by rw [ht]; exact List.mem_cons_of_mem _ hu), by have := h.most; rw [ht] at this; simp at this; show r.length ≤ 6000; omega, h.lens, fun u hu => h.txt u (by rw [ht]; exact List.mem_cons_of_mem _ hu)⟩
  match j with
  | 0 => rfl
  | 1 => rfl
  | 2 => rfl
  | 3 => rfl
  | 4 => rfl
  | 5 => rfl
  | 6 => rfl
  | 7 => rfl
  | 8 => rfl
  | 9 => rfl
  | 10 => rfl
  | j + 11 => omega
def TakeP (F : Fx) (w : World) (st : St) (e : Ending) (w' : World) : Prop := e = .returned (tokV (takeF F.en st).1) ∧ StP F w (takeF F.en st).2 w'
set_option maxRecDepth 20000 in
set_option maxHeartbeats 1000000 in
theorem take_any (F : Fx) (st : St) (w : World) (h : Rdr F w st) : Calls Tryz.prog 104 #[.pointer (some ⟨F.b, 0, none⟩)] w (TakeP F w st) := by
  obtain ⟨A, c, h⟩ := h
  have hb1 := below_alloc1 w (.cells #[.int .i64 0, .int .i64 0, .int .i64 0, .string ⟨#[]⟩] 107)
  have H1 := Lib.hid (h.next hb1)
  have hlt := h.lt
  cases ht : st.ts with
  | nil =>
    have HT : Hid (takeF F.en st = (noTok F.en, st.fail F.en 3)) := Lib.hid (by unfold takeF; rw [ht])
    have c0 := H1.out.s0
    have c1 := H1.out.s1
    rw [ht] at c0
    dsimp only [List.length_nil] at c0
    clear h
    go_enter Tryz.func104, Tryz.ntmps104
    go_wp2_with fail
    have HZ := TB.new w ⟨0, 0, 0, ⟨#[]⟩⟩
    have HN := TB.new (w.alloc (.cells #[.int .i64 0, .int .i64 0, .int .i64 0, .string ⟨#[]⟩] 107)) (noTok F.en)
    have hb2 := below_alloc1 (w.alloc (.cells #[.int .i64 0, .int .i64 0, .int .i64 0, .string ⟨#[]⟩] 107)) (.cells #[.int .i64 0, .int .i64 0, .int .i64 (F.en : Nat), .string ⟨#[]⟩] 107)
    refine (fail_any F st (noTok F.en) 3 _ ⟨A, c, H1.out.next hb2⟩).mono ?_
    rintro e w1 ⟨⟨r, rfl⟩, hS⟩
    have hne : w.heap.size ≠ F.b := by omega
    have HZ1 := Lib.hid ((HZ.keep hb2).turn hS.2 hne)
    have HN1 := Lib.hid (HN.turn hS.2 (by simp; omega))
    have HS := Lib.hid (StP.below (bthen hb1 hb2) hS)
    clear HZ HN hS hb2
    have z0 := HZ1.out.c0
    have z1 := HZ1.out.c1
    have z2 := HZ1.out.c2
    have z3 := HZ1.out.c3
    have zf := HZ1.out.fz
    have n0 := HN1.out.c0
    have n1 := HN1.out.c1
    have n2 := HN1.out.c2
    have n3 := HN1.out.c3
    have n4 : (w.alloc (.cells #[.int .i64 0, .int .i64 0, .int .i64 0, .string ⟨#[]⟩] 107)).heap.size = w.heap.size + 1 := by simp
    rw [n4] at n0 n1 n2 n3
    unfold noTok at n0 n1 n2 n3
    clear hne
    go_wp2
    refine bodyPost_ret (v := tokV (noTok F.en)) (results_cell_row (P := Tryz.prog) Tryz.results104 _ _ w.heap.size 107 _ (0, 0) _ rfl (HZ1.out.put (noTok F.en)) Tryz.underlying107 rfl (by kernel_rfl)) rfl ⟨?_, ?_⟩
    · rw [HT.out]
    · rw [HT.out]
      exact HS.out.put hlt (Nat.le_refl _) (noTok F.en)
  | cons t r =>
    have HT : Hid (takeF F.en st = (t, ⟨r, st.pl, st.why⟩)) := Lib.hid (by unfold takeF; rw [ht])
    have hb2 := below_alloc1 (w.alloc (.cells #[.int .i64 0, .int .i64 0, .int .i64 0, .string ⟨#[]⟩] 107)) (.cells #[.int .i64 (t.kind : Nat), .int .i64 t.num, .int .i64 (t.pos : Nat), .string t.text] 107)
    have H2 := Lib.hid (H1.out.next hb2)
    have HB2 := Lib.hid (bthen hb1 hb2)
    have HZ2 := Lib.hid ((TB.new w ⟨0, 0, 0, ⟨#[]⟩⟩).keep hb2)
    have HN2 := Lib.hid (TB.new (w.alloc (.cells #[.int .i64 0, .int .i64 0, .int .i64 0, .string ⟨#[]⟩] 107)) t)
    have hcap := h.cap
    obtain ⟨tb, off, rfl, htb, htn, t0, t1, t2, t3⟩ := H1.out.head ht
    have c0 := H1.out.s0
    have d0 := H2.out.s0
    rw [ht] at c0 d0 hcap
    have hcap : r.length + 1 ≤ c := hcap
    obtain ⟨n, hn⟩ : ∃ n, n = 1 + r.length := ⟨_, rfl⟩
    have hn2 : (t :: r).length = n := by rw [hn, List.length_cons, Nat.add_comm]
    rw [hn2] at c0 d0
    obtain ⟨B2, hB2, hrun⟩ := tailT_run (some ⟨tb, off, none⟩) r.length c hcap
    rw [← hn] at hrun
    have HB := Lib.hid hB2
    have hp : (0 : Int) < (n : Int) := by omega
    have hp0 : ¬ (n : Int) = 0 := by omega
    obtain ⟨m, hm⟩ : ∃ m, r.length = m := ⟨_, rfl⟩
    obtain ⟨d, hd⟩ : ∃ d, c - 1 = d := ⟨_, rfl⟩
    rw [hm, hd] at hrun
    clear h htb hn hn2 hB2 hb1 hb2
    go_enter Tryz.func104, Tryz.ntmps104
    go_upto_region 6 with (fail)
    have hz : (w.alloc (.cells #[.int .i64 0, .int .i64 0, .int .i64 0, .string ⟨#[]⟩] 107)).heap.size = w.heap.size + 1 := by simp
    rw [hz] at HN2
    have f0 := H2.out.row.frozen 0
    clear c0 t0 t1 t2 t3 hz H1
    generalize (w.alloc (.cells #[.int .i64 0, .int .i64 0, .int .i64 0, .string ⟨#[]⟩] 107)).alloc (.cells #[.int .i64 (t.kind : Nat), .int .i64 t.num, .int .i64 (t.pos : Nat), .string t.text] 107) = w2 at *
    have HR := Lib.hid (rows_take H2.out ht)
    rw [← HB.out, hm, hd] at HR
    have HS2 : Hid (StP F w ⟨r, st.pl, st.why⟩ (w2.setCell ⟨F.b, 0, none⟩ (.slice B2 m d))) := Lib.hid ⟨⟨B2, d, HR.out⟩, tn_set (Turn.of_below HB2.out) 0 _⟩
    have HZ3 : Hid (TB (w2.setCell ⟨F.b, 0, none⟩ (.slice B2 m d)) w.heap.size ⟨0, 0, 0, ⟨#[]⟩⟩) := Lib.hid (HZ2.out.turn (tn_set (Turn.refl _ _) 0 _) (by omega))
    have HN3 : Hid (TB (w2.setCell ⟨F.b, 0, none⟩ (.slice B2 m d)) (w.heap.size + 1) t) := Lib.hid (HN2.out.turn (tn_set (Turn.refl _ _) 0 _) (by omega))
    go_upto_region 7 with (fail)
    generalize w2.setCell ⟨F.b, 0, none⟩ (.slice B2 m d) = w3 at *
    clear d0 f0 H2 HB2 HZ2 HN2 HR
    have z0 := HZ3.out.c0
    have z1 := HZ3.out.c1
    have z2 := HZ3.out.c2
    have z3 := HZ3.out.c3
    have zf := HZ3.out.fz
    have n0 := HN3.out.c0
    have n1 := HN3.out.c1
    have n2 := HN3.out.c2
    have n3 := HN3.out.c3
    go_wp2
    refine bodyPost_ret (v := tokV t) (results_cell_row (P := Tryz.prog) Tryz.results104 _ _ w.heap.size 107 _ (0, 0) _ rfl (HZ3.out.put t) Tryz.underlying107 rfl (by kernel_rfl)) rfl ⟨?_, ?_⟩
    · rw [HT.out]
    · rw [HT.out]
      exact HS2.out.put hlt (Nat.le_refl _) t
end Go.Proofs.YtmnigdphikoljaaGreatDoor.et
