/- Rows of structs, at any kind of struct: reading, appending. -/
import Derived.Test.YtophajljjnjcdaaIntRows
import Derived.Deep.AppendLies
import Derived.Deep.RegionHeld3
import Derived.Deep.Cut
import Derived.Lib.SmallJoins
import Derived.RangeFuncRecord
import Derived.Lib.AppendZeros
namespace Go.Proofs.Ytophajljjnjcdaa.sr
open Go.ChangeShapes Go.WideShapes Go.ChangeAt Go.RowKit Go.Deep Go.Joins

section
variable {α : Type} (enc : α → List Value) (size : Nat)
def flatR (l : List α) : List Value := l.flatMap enc
variable {enc size}
theorem flatR_length (hsz : ∀ x, (enc x).length = size) : ∀ l : List α, (flatR enc l).length = l.length * size
  | [] => by simp [flatR]
  | x :: l => by
    have ih := flatR_length hsz l
    unfold flatR at ih ⊢
    rw [List.flatMap_cons, List.length_append, hsz, ih, List.length_cons, Nat.add_mul]
    omega
theorem flatR_append (l l2 : List α) : flatR enc (l ++ l2) = flatR enc l ++ flatR enc l2 := by unfold flatR; rw [List.flatMap_append]

variable [Inhabited α]
theorem flatR_get (hsz : ∀ x, (enc x).length = size) : ∀ (l : List α) (i j : Nat), i < l.length → j < size → (flatR enc l)[i * size + j]? = (enc (l.getD i default))[j]?
  | [], i, j, h, _ => absurd h (by simp)
  | x :: l, 0, j, _, hj => by
    unfold flatR
    rw [List.flatMap_cons, Nat.zero_mul, Nat.zero_add, List.getElem?_append_left (by rw [hsz]; exact hj)]
    rfl
  | x :: l, i + 1, j, h, hj => by
    have ih := flatR_get hsz l i j (by simpa using h) hj
    unfold flatR at ih ⊢
    rw [List.flatMap_cons, List.getElem?_append_right (by rw [hsz, Nat.add_mul]; omega), hsz, show (i + 1) * size + j - size = i * size + j by rw [Nat.add_mul]; omega, ih]
    rfl
variable (enc size)
/-- A slice of structs at address A (nil let in) reads as l. -/
def RS (w : World) (A : Option Addr) (l : List α) : Prop :=
  0 < l.length → ∃ b off, A = some ⟨b, off, none⟩ ∧ b < w.heap.size ∧ ∀ i, i < l.length → ∀ j, j < size → w.cell? ⟨b, off + i * size + j, none⟩ = (enc (l.getD i default))[j]?
/-- A row of the call's own that reads as l. -/
def OR (base : Nat) (e : TypeId) (w : World) (v : Value) (l : List α) : Prop := w.ownsRow base e size v l.length (flatR enc l)
variable {enc size}
theorem RS.below {w w' : World} {A : Option Addr} {l : List α} (h : RS enc size w A l) (hk : Below w.heap.size w w') : RS enc size w' A l := fun hn => by
  obtain ⟨b, off, e, hb, hc⟩ := h hn
  exact ⟨b, off, e, Nat.lt_of_lt_of_le hb hk.size, fun i hi j hj => (hk.cell (p := ⟨b, off + i * size + j, none⟩) hb).trans (hc i hi j hj)⟩
theorem RS.take {w : World} {A : Option Addr} {l : List α} (h : RS enc size w A l) (k : Nat) : RS enc size w A (l.take k) := fun hn => by
  rw [List.length_take] at hn
  obtain ⟨b, off, e, hb, hc⟩ := h (by omega)
  refine ⟨b, off, e, hb, fun i hi j hj => ?_⟩
  rw [List.length_take] at hi
  have q : (l.take k).getD i default = l.getD i default := by simp [List.getD, List.getElem?_take, show i < k by omega]
  rw [q]
  exact hc i (by omega) j hj
theorem OR.rs {base : Nat} {e : TypeId} {w : World} {v : Value} {l : List α} (hsz : ∀ x, (enc x).length = size) (h : OR enc size base e w v l) : ∃ A c, v = .slice A l.length c ∧ RS enc size w A l := by
  have h' : w.ownsRow base e size v l.length (flatR enc l) := h
  rcases ownsRow_forms h' with ⟨rfl, h0⟩ | ⟨g, cap, rfl⟩
  · exact ⟨none, 0, by rw [h0], fun hn => absurd hn (by omega)⟩
  · refine ⟨_, cap, rfl, fun hn => ⟨g, 0, rfl, (h'.lt g rfl).2, fun i hi j hj => ?_⟩⟩
    have hle : (i + 1) * size ≤ l.length * size := Nat.mul_le_mul_right _ hi
    rw [Nat.add_mul] at hle
    rw [Nat.zero_add, h'.cellAt (i * size + j) (by omega), flatR_get hsz l i j hi hj]
/-- A struct that was laid anew. -/
theorem RS.one {w : World} {x : α} {t : TypeId} {cs : Array Value} (hsz : ∀ x, (enc x).length = size) (h0 : 0 < size) (hcs : cs = (enc x).toArray) (k : Nat) (hk : w.heap[k]? = some (.cells cs t)) : RS enc size w (some ⟨k, 0, none⟩) [x] := fun _ => by
  refine ⟨k, 0, rfl, (Array.getElem?_eq_some_iff.1 hk).1, fun i hi j hj => ?_⟩
  have hi : i < 1 := hi
  obtain rfl : i = 0 := by omega
  subst hcs
  have hjl : j < (enc x).length := by rw [hsz]; exact hj
  have : w.cell? ⟨k, 0 + 0 * size + j, none⟩ = (enc x)[j]? := by
    simp [World.cell?, hk]
  exact this

variable {P : Program}
/-- append of what a slice reads as onto a row of the call's own: the run. -/
theorem run_append_rs {t e : TypeId} {z : Value} {bytes : Nat} (hsz : ∀ x, (enc x).length = size) (hone : ∀ x, ∀ u ∈ enc x, u.oneCell' = true) (ht : P.underlying t = some (.slice e)) (hi : (P.info? e).map (fun i => (i.zero, i.size, i.bytes)) = some (some z, size, bytes)) (hzs : z.cells.size = size) (h0 : 0 < size) (hby : bytes ≤ 100)
    {w : World} (base : Nat) (v : Value) (l : List α) (hown : OR enc size base e w v l) (A : Option Addr) (m c : Nat) (l2 : List α) (hm : m = l2.length) (hpos : 0 < m) (hA : RS enc size w A l2) (hlen : l.length + m ≤ 1000000) (hbase : base ≤ w.heap.size) :
    ∃ v' w', (Builtin.append_ #[t, t] t #[v, .slice A m c]).run P w = .ok v' w' ∧ OR enc size base e w' v' (l ++ l2) ∧ w.grownBy w' v.ownBlock := by
  obtain ⟨i0, hi0, hz0, hz1, hz2⟩ := info_parts hi
  subst hm
  obtain ⟨b, off, rfl, hb, hc⟩ := hA hpos
  obtain ⟨v', w', hr, h2, h3, _, _⟩ := run_append_own_at (P := P) w base t t e i0 z size bytes ht hi0 hz0 hz1 hz2 hzs h0 v l.length _ hown ⟨b, off, none⟩ l2.length c (flatR enc l2) (flatR_length hsz l2) (fun j u hu => by
    have hj : j < l2.length * size := by rw [← flatR_length hsz l2]; exact (List.getElem?_eq_some_iff.1 hu).1
    have hd : j / size < l2.length := (Nat.div_lt_iff_lt_mul h0).2 hj
    have hm2 : j % size < size := Nat.mod_lt _ h0
    have hjj : j / size * size + j % size = j := Nat.div_add_mod' j size
    have h5 := flatR_get hsz l2 _ _ hd hm2
    rw [hjj, hu] at h5
    rw [add_plain, show off + j = off + j / size * size + j % size by omega, hc _ hd _ hm2, ← h5]) (fun u hu => by
    obtain ⟨x, _, hx⟩ := List.mem_flatMap.1 hu
    exact hone x u hx) (by unfold maxLen; omega) (by
    have : (l.length + l2.length) * bytes ≤ 1000000 * 100 := Nat.mul_le_mul hlen hby
    omega) hbase
  refine ⟨v', w', hr, ?_, h3⟩
  unfold OR
  rw [List.length_append, flatR_append]
  exact h2
/-- An append whose run is known, at a step of a region that draws its order. -/
theorem step_append_at {w w' : World} {ops : Array Oper} {o : Oper} {a : Act} {K : Act → World → Prop} {Q : Exit → Act → World → Prop} {E : Prop} {t : TypeId} {v u v' : Value} (hgd : o.guard = none) (s x : Operand)
    (ho : o.op = .call { callee := .builtin .append, args := #[s, x], argTypes := #[t, t] }) (hty : o.type = t) (hs : a.eval s = v) (hx : a.eval x = u)
    (hr : (Builtin.append_ #[t, t] t #[v, u]).run P w = .ok v' w') (h : K (a.put o.dst v') w') :
    if Region.wanted o (yielded ops a.tmps) = true then Oper.wp P o a w K Q else E := by
  have hw : Region.wanted o (yielded ops a.tmps) = true := by simp [Region.wanted, hgd]
  rw [if_pos hw]
  unfold Oper.wp execOp
  simp only [ho, resolve, invoke, builtin, Sem.run_bind, Sem.run_pure, Result.andThen_ok, List.map_toArray, List.map_cons, List.map_nil, hs, hx, hty, hr]
  exact h
/-- The first append: of all of a slice onto a row that holds nothing. -/
theorem step_append_first {t e : TypeId} {z : Value} {bytes : Nat} (hsz : ∀ x, (enc x).length = size) (hone : ∀ x, ∀ u ∈ enc x, u.oneCell' = true) (ht : P.underlying t = some (.slice e)) (hi : (P.info? e).map (fun i => (i.zero, i.size, i.bytes)) = some (some z, size, bytes)) (hzs : z.cells.size = size) (h0 : 0 < size) (hby : bytes ≤ 100)
    {w : World} {ops : Array Oper} {o : Oper} {a : Act} {K : Act → World → Prop} {Q : Exit → Act → World → Prop} {E : Prop} (base H : Nat) (hgd : o.guard = none) (s x : Operand)
    (ho : o.op = .call { callee := .builtin .append, args := #[s, x], argTypes := #[t, t] }) (hty : o.type = t) (hs : a.eval s = .slice (some ⟨H, 0, none⟩) 0 0) (l : List α) (A : Option Addr) (m c : Nat) (hx : a.eval x = .slice A m c) (hm : m = l.length) (hpos : 0 < m) (hA : RS enc size w A l) (hlen : m ≤ 1000) (hbase : base ≤ H) (hH : w.heap[H]? = some (.cells #[] e))
    (h : ∀ v' w', OR enc size base e w' v' l → w.grownBy w' (some H) → K (a.put o.dst v') w') :
    if Region.wanted o (yielded ops a.tmps) = true then Oper.wp P o a w K Q else E := by
  have hlt := (Array.getElem?_eq_some_iff.1 hH).1
  obtain ⟨v', w', hr, h2, h3⟩ := run_append_rs hsz hone ht hi hzs h0 hby (w := w) base (.slice (some ⟨H, 0, none⟩) 0 0) [] ⟨by simp [flatR], .inr ⟨H, 0, #[], rfl, hbase, hH, Nat.le_refl _, Nat.zero_le _, by simp, by simp [flatR]⟩⟩ A m c l hm hpos hA (by simp; omega) (by omega)
  exact step_append_at hgd s x ho hty hs hx hr (h v' w' h2 h3)
/-- The second: of one more. -/
theorem step_append_more {t e : TypeId} {z : Value} {bytes : Nat} (hsz : ∀ x, (enc x).length = size) (hone : ∀ x, ∀ u ∈ enc x, u.oneCell' = true) (ht : P.underlying t = some (.slice e)) (hi : (P.info? e).map (fun i => (i.zero, i.size, i.bytes)) = some (some z, size, bytes)) (hzs : z.cells.size = size) (h0 : 0 < size) (hby : bytes ≤ 100)
    {w : World} {ops : Array Oper} {o : Oper} {a : Act} {K : Act → World → Prop} {Q : Exit → Act → World → Prop} {E : Prop} (base H : Nat) (hgd : o.guard = none) (s x : Operand)
    (ho : o.op = .call { callee := .builtin .append, args := #[s, x], argTypes := #[t, t] }) (hty : o.type = t) (v : Value) (l : List α) (hs : a.eval s = v) (hown : OR enc size base e w v l) (y : α) (cs : Array Value) (hcs : cs = (enc y).toArray) (hx : a.eval x = .slice (some ⟨H, 0, none⟩) 1 1) (hlen : l.length ≤ 1000) (hbase : base ≤ w.heap.size) (t2 : TypeId) (hH : w.heap[H]? = some (.cells cs t2)) (n : Nat) (hn : l.length + 1 = n)
    (h : ∀ A' c' w', RS enc size w' A' (l ++ [y]) → Below base w w' → K (a.put o.dst (.slice A' n c')) w') :
    if Region.wanted o (yielded ops a.tmps) = true then Oper.wp P o a w K Q else E := by
  obtain ⟨v', w', hr, h2, h3⟩ := run_append_rs hsz hone ht hi hzs h0 hby (w := w) base v l hown (some ⟨H, 0, none⟩) 1 1 [y] rfl (by decide) (RS.one hsz h0 hcs H hH) (by omega) hbase
  obtain ⟨A', c', rfl, h4⟩ := OR.rs hsz h2
  rw [List.length_append, List.length_singleton, hn] at hr
  exact step_append_at hgd s x ho hty hs hx hr (h A' c' w' h4 (Below.grown (Below.refl _ _) h3 hbase (fun k hk => (World.ownsRow.lt hown k hk).1)))
/-- One struct more onto a row of the call's own, at a step of a region that draws its order. -/
theorem step_append_own {t e : TypeId} {z : Value} {bytes : Nat} (hsz : ∀ x, (enc x).length = size) (hone : ∀ x, ∀ u ∈ enc x, u.oneCell' = true) (ht : P.underlying t = some (.slice e)) (hi : (P.info? e).map (fun i => (i.zero, i.size, i.bytes)) = some (some z, size, bytes)) (hzs : z.cells.size = size) (h0 : 0 < size) (hby : bytes ≤ 100)
    {w : World} {ops : Array Oper} {o : Oper} {a : Act} {K : Act → World → Prop} {Q : Exit → Act → World → Prop} {E : Prop} (base H : Nat) (hgd : o.guard = none) (s x : Operand)
    (ho : o.op = .call { callee := .builtin .append, args := #[s, x], argTypes := #[t, t] }) (hty : o.type = t) (v : Value) (l : List α) (hs : a.eval s = v) (hown : OR enc size base e w v l) (y : α) (cs : Array Value) (hcs : cs = (enc y).toArray) (hx : a.eval x = .slice (some ⟨H, 0, none⟩) 1 1) (hlen : l.length ≤ 100000) (hbase : base ≤ w.heap.size) (t2 : TypeId) (hH : w.heap[H]? = some (.cells cs t2))
    (h : ∀ v' w', OR enc size base e w' v' (l ++ [y]) → Below base w w' → w.grownBy w' v.ownBlock → K (a.put o.dst v') w') :
    if Region.wanted o (yielded ops a.tmps) = true then Oper.wp P o a w K Q else E := by
  obtain ⟨v', w', hr, h2, h3⟩ := run_append_rs hsz hone ht hi hzs h0 hby (w := w) base v l hown (some ⟨H, 0, none⟩) 1 1 [y] rfl (by decide) (RS.one hsz h0 hcs H hH) (by omega) hbase
  exact step_append_at hgd s x ho hty hs hx hr (h v' w' h2 (Below.grown (Below.refl _ _) h3 hbase (fun k hk => (World.ownsRow.lt hown k hk).1)) h3)
/-- .. in a region that keeps its order. -/
theorem list_append_own {t e : TypeId} {z : Value} {bytes : Nat} (hsz : ∀ x, (enc x).length = size) (hone : ∀ x, ∀ u ∈ enc x, u.oneCell' = true) (ht : P.underlying t = some (.slice e)) (hi : (P.info? e).map (fun i => (i.zero, i.size, i.bytes)) = some (some z, size, bytes)) (hzs : z.cells.size = size) (h0 : 0 < size) (hby : bytes ≤ 100)
    {w : World} {ops : Array Oper} {rest : List Oper} {o : Oper} {a : Act} {Q : Exit → Act → World → Prop} (base H : Nat) (hgd : o.guard = none) (s x : Operand)
    (ho : o.op = .call { callee := .builtin .append, args := #[s, x], argTypes := #[t, t] }) (hty : o.type = t) (v : Value) (l : List α) (hs : a.eval s = v) (hown : OR enc size base e w v l) (y : α) (cs : Array Value) (hcs : cs = (enc y).toArray) (hx : a.eval x = .slice (some ⟨H, 0, none⟩) 1 1) (hlen : l.length ≤ 100000) (hbase : base ≤ w.heap.size) (t2 : TypeId) (hH : w.heap[H]? = some (.cells cs t2))
    (h : ∀ v' w', OR enc size base e w' v' (l ++ [y]) → Below base w w' → w.grownBy w' v.ownBlock → wpList P ops Q rest (a.put o.dst v') w') :
    wpList P ops Q (o :: rest) a w := by
  obtain ⟨v', w', hr, h2, h3⟩ := run_append_rs hsz hone ht hi hzs h0 hby (w := w) base v l hown (some ⟨H, 0, none⟩) 1 1 [y] rfl (by decide) (RS.one hsz h0 hcs H hH) (by omega) hbase
  exact Lib.wpList_append_run w hgd s x t t ho v _ hs hx _ w' (by rw [hty]; exact hr) (h v' w' h2 (Below.grown (Below.refl _ _) h3 hbase (fun k hk => (World.ownsRow.lt hown k hk).1)) h3)
end
theorem OR.below {α : Type} {enc : α → List Value} {size : Nat} {base : Nat} {e : TypeId} {w w' : World} {v : Value} {l : List α} (h : OR enc size base e w v l) (hb : Below w.heap.size w w') : OR enc size base e w' v l := by
  refine World.ownsRow.kept (row := none) h ⟨hb.os, hb.tape, hb.output, hb.size, fun k hk _ => hb.block k hk⟩ ?_
  rcases hv : v.ownBlock with _ | g
  · exact .inl rfl
  · exact .inr (fun e => by cases e)
theorem OR.mono {α : Type} {enc : α → List Value} {size : Nat} {base base' : Nat} {e : TypeId} {w : World} {v : Value} {l : List α} (h : OR enc size base e w v l) (hb : base' ≤ base) : OR enc size base' e w v l := Go.Joins.ownsRow_le h hb

theorem far_cell {w4 W w5 : World} {H b o : Nat} {v : Value} (hB : Below w4.heap.size w4 W) (hg : W.grownBy w5 (some H)) (hH : w4.heap.size ≤ H) (hb : b < w4.heap.size) (hc : w4.cell? ⟨b, o, none⟩ = some v) : w5.cell? ⟨b, o, none⟩ = some v :=
  (hg.cell_far ⟨b, o, none⟩ (Nat.lt_of_lt_of_le hb hB.size) (fun e => by have e : b = H := Option.some.inj e; omega)).trans ((hB.cell (p := ⟨b, o, none⟩) hb).trans hc)
theorem below_far {w4 W w5 : World} {H : Nat} (hB : Below w4.heap.size w4 W) (hg : W.grownBy w5 (some H)) (hH : w4.heap.size ≤ H) : Below w4.heap.size w4 w5 := Below.grown hB hg hB.size (fun k e => by cases e; exact hH)
theorem heap_prev (w : World) (o o2 : Obj) : ((w.alloc o).alloc o2).heap[w.heap.size]? = some o := (Below.heap_alloc _ _ _ (by simp)).trans (World.alloc_heap_new w o)
theorem heap_next (w : World) (o o2 : Obj) : ((w.alloc o).alloc o2).heap[w.heap.size + 1]? = some o2 := by
  have := World.alloc_heap_new (w.alloc o) o2
  rwa [World.size_alloc] at this

end Go.Proofs.Ytophajljjnjcdaa.sr
