/- The law ExprFits' own env: notions. -/
import Derived.Test.YtodloljpfbkkjaaRRRRExprLawFill
import Derived.Test.YtodloljpfbkkjaaRRRRExprFitsPure
import Derived.Deep.RegionHeld3
import Derived.Deep.RegionLaw
import Derived.Laws.ResultCell
import Derived.Deep.AppendLies
import Derived.RangeFuncRecord
namespace Go.Proofs.YtodloljpfbkkjaaRRRR.lenv
open Go.ChangeShapes Go.WideShapes Go.ChangeAt Go.RowKit

/-- What stands in the first block of a row of statements that bears number n. -/
def findBlock (n : Nat) : Code → Option Code
  | .seq a b => match findBlock n a with
    | some c => some c
    | none => findBlock n b
  | .block i c => if i = n then some c else none
  | _ => none
/-- A block of five cells that nothing freezes. -/
structure Five (w : World) (b : Nat) (v0 v1 v2 v3 v4 : Value) : Prop where
  c0 : w.cell? ⟨b, 0, none⟩ = some v0
  c1 : w.cell? ⟨b, 1, none⟩ = some v1
  c2 : w.cell? ⟨b, 2, none⟩ = some v2
  c3 : w.cell? ⟨b, 3, none⟩ = some v3
  c4 : w.cell? ⟨b, 4, none⟩ = some v4
  f : ∀ j, w.frozen? ⟨b, j, none⟩ = false
  lt : b < w.heap.size
/-- Five such cells: four slices and a number. -/
def FiveS (w : World) (z : Nat) : Prop := ∃ (a b c d : Option Addr) (i j k l m n o p : Nat) (s : Int), Five w z (.slice a i j) (.slice b k l) (.slice c m n) (.slice d o p) (.int .i64 s)
theorem FiveS.of {w : World} {z : Nat} {a b c d : Option Addr} {i j k l m n o p : Nat} {s : Int} (h : Five w z (.slice a i j) (.slice b k l) (.slice c m n) (.slice d o p) (.int .i64 s)) : FiveS w z := ⟨_, _, _, _, _, _, _, _, _, _, _, _, _, h⟩
theorem frozen_of_block {w w' : World} {b j : Nat} (h : w'.heap[b]? = w.heap[b]?) : w'.frozen? ⟨b, j, none⟩ = w.frozen? ⟨b, j, none⟩ := by
  simp only [World.frozen?, h]
theorem Five.turn {T : Nat → Prop} {w w' : World} {b : Nat} {v0 v1 v2 v3 v4 : Value} (h : Five w b v0 v1 v2 v3 v4) (k : Turn T w w') (hT : ¬ T b) : Five w' b v0 v1 v2 v3 v4 :=
  ⟨(k.cell (p := ⟨b, 0, none⟩) h.lt hT).trans h.c0, (k.cell (p := ⟨b, 1, none⟩) h.lt hT).trans h.c1, (k.cell (p := ⟨b, 2, none⟩) h.lt hT).trans h.c2, (k.cell (p := ⟨b, 3, none⟩) h.lt hT).trans h.c3, (k.cell (p := ⟨b, 4, none⟩) h.lt hT).trans h.c4,
    fun j => (frozen_of_block (k.block b h.lt hT)).trans (h.f j), Nat.lt_of_lt_of_le h.lt k.size⟩
theorem Five.below {w w' : World} {b : Nat} {v0 v1 v2 v3 v4 : Value} (h : Five w b v0 v1 v2 v3 v4) (k : Below w.heap.size w w') : Five w' b v0 v1 v2 v3 v4 := h.turn (T := fun _ => False) (Turn.of_below k) (fun h => h)
theorem Five.new {w : World} {v0 v1 v2 v3 v4 : Value} {t : TypeId} : Five (w.alloc (.cells #[v0, v1, v2, v3, v4] t)) w.heap.size v0 v1 v2 v3 v4 :=
  ⟨World.cell?_alloc_at _ _ _ _ rfl, World.cell?_alloc_at _ _ _ _ rfl, World.cell?_alloc_at _ _ _ _ rfl, World.cell?_alloc_at _ _ _ _ rfl, World.cell?_alloc_at _ _ _ _ rfl, fun j => World.frozen?_alloc_at _ _ _ _ rfl, by simp⟩
theorem Five.lower {B : Nat} {w w' : World} {b : Nat} {v0 v1 v2 v3 v4 : Value} (h : Five w b v0 v1 v2 v3 v4) (k : Below B w w') (hb : b < B) : Five w' b v0 v1 v2 v3 v4 :=
  ⟨(k.cell (p := ⟨b, 0, none⟩) hb).trans h.c0, (k.cell (p := ⟨b, 1, none⟩) hb).trans h.c1, (k.cell (p := ⟨b, 2, none⟩) hb).trans h.c2, (k.cell (p := ⟨b, 3, none⟩) hb).trans h.c3, (k.cell (p := ⟨b, 4, none⟩) hb).trans h.c4, fun j => (frozen_of_block (k.block b hb)).trans (h.f j), Nat.lt_of_lt_of_le h.lt k.size⟩
theorem five_ne (b i j : Nat) (h : i ≠ j) : (⟨b, i, none⟩ : Addr) ≠ ⟨b, j, none⟩ := fun e => by
  injection e with _ e _
  exact h e
theorem Five.set0 {w : World} {b : Nat} {v0 v1 v2 v3 v4 : Value} (h : Five w b v0 v1 v2 v3 v4) (v : Value) : Five (w.setCell ⟨b, 0, none⟩ v) b v v1 v2 v3 v4 :=
  ⟨World.cell?_setCell_same _ _ _ h.c0, (World.cell?_setCell_other _ _ _ _ (five_ne b 0 1 (by decide))).trans h.c1, (World.cell?_setCell_other _ _ _ _ (five_ne b 0 2 (by decide))).trans h.c2, (World.cell?_setCell_other _ _ _ _ (five_ne b 0 3 (by decide))).trans h.c3, (World.cell?_setCell_other _ _ _ _ (five_ne b 0 4 (by decide))).trans h.c4, fun j => by rw [World.frozen?_setCell]; exact h.f j, by rw [World.size_setCell]; exact h.lt⟩
theorem Five.set1 {w : World} {b : Nat} {v0 v1 v2 v3 v4 : Value} (h : Five w b v0 v1 v2 v3 v4) (v : Value) : Five (w.setCell ⟨b, 1, none⟩ v) b v0 v v2 v3 v4 :=
  ⟨(World.cell?_setCell_other _ _ _ _ (five_ne b 1 0 (by decide))).trans h.c0, World.cell?_setCell_same _ _ _ h.c1, (World.cell?_setCell_other _ _ _ _ (five_ne b 1 2 (by decide))).trans h.c2, (World.cell?_setCell_other _ _ _ _ (five_ne b 1 3 (by decide))).trans h.c3, (World.cell?_setCell_other _ _ _ _ (five_ne b 1 4 (by decide))).trans h.c4, fun j => by rw [World.frozen?_setCell]; exact h.f j, by rw [World.size_setCell]; exact h.lt⟩
theorem Five.set2 {w : World} {b : Nat} {v0 v1 v2 v3 v4 : Value} (h : Five w b v0 v1 v2 v3 v4) (v : Value) : Five (w.setCell ⟨b, 2, none⟩ v) b v0 v1 v v3 v4 :=
  ⟨(World.cell?_setCell_other _ _ _ _ (five_ne b 2 0 (by decide))).trans h.c0, (World.cell?_setCell_other _ _ _ _ (five_ne b 2 1 (by decide))).trans h.c1, World.cell?_setCell_same _ _ _ h.c2, (World.cell?_setCell_other _ _ _ _ (five_ne b 2 3 (by decide))).trans h.c3, (World.cell?_setCell_other _ _ _ _ (five_ne b 2 4 (by decide))).trans h.c4, fun j => by rw [World.frozen?_setCell]; exact h.f j, by rw [World.size_setCell]; exact h.lt⟩
theorem Five.set3 {w : World} {b : Nat} {v0 v1 v2 v3 v4 : Value} (h : Five w b v0 v1 v2 v3 v4) (v : Value) : Five (w.setCell ⟨b, 3, none⟩ v) b v0 v1 v2 v v4 :=
  ⟨(World.cell?_setCell_other _ _ _ _ (five_ne b 3 0 (by decide))).trans h.c0, (World.cell?_setCell_other _ _ _ _ (five_ne b 3 1 (by decide))).trans h.c1, (World.cell?_setCell_other _ _ _ _ (five_ne b 3 2 (by decide))).trans h.c2, World.cell?_setCell_same _ _ _ h.c3, (World.cell?_setCell_other _ _ _ _ (five_ne b 3 4 (by decide))).trans h.c4, fun j => by rw [World.frozen?_setCell]; exact h.f j, by rw [World.size_setCell]; exact h.lt⟩
theorem Five.set4 {w : World} {b : Nat} {v0 v1 v2 v3 v4 : Value} (h : Five w b v0 v1 v2 v3 v4) (v : Value) : Five (w.setCell ⟨b, 4, none⟩ v) b v0 v1 v2 v3 v :=
  ⟨(World.cell?_setCell_other _ _ _ _ (five_ne b 4 0 (by decide))).trans h.c0, (World.cell?_setCell_other _ _ _ _ (five_ne b 4 1 (by decide))).trans h.c1, (World.cell?_setCell_other _ _ _ _ (five_ne b 4 2 (by decide))).trans h.c2, (World.cell?_setCell_other _ _ _ _ (five_ne b 4 3 (by decide))).trans h.c3, World.cell?_setCell_same _ _ _ h.c4, fun j => by rw [World.frozen?_setCell]; exact h.f j, by rw [World.size_setCell]; exact h.lt⟩
theorem five_set {w : World} {b : Nat} {u0 u1 u2 u3 u4 : Value} (h : Five w b u0 u1 u2 u3 u4) (v0 v1 v2 v3 v4 : Value) : Five (((((w.setCell ⟨b, 0, none⟩ v0).setCell ⟨b, 1, none⟩ v1).setCell ⟨b, 2, none⟩ v2).setCell ⟨b, 3, none⟩ v3).setCell ⟨b, 4, none⟩ v4) b v0 v1 v2 v3 v4 := ((((h.set0 v0).set1 v1).set2 v2).set3 v3).set4 v4
theorem below5 {B : Nat} {a w : World} (h : Below B a w) (z : Nat) (hz : B ≤ z) (v0 v1 v2 v3 v4 : Value) : Below B a (((((w.setCell ⟨z, 0, none⟩ v0).setCell ⟨z, 1, none⟩ v1).setCell ⟨z, 2, none⟩ v2).setCell ⟨z, 3, none⟩ v3).setCell ⟨z, 4, none⟩ v4) :=
  ((((h.setCell (p := ⟨z, 0, none⟩) hz v0).setCell (p := ⟨z, 1, none⟩) hz v1).setCell (p := ⟨z, 2, none⟩) hz v2).setCell (p := ⟨z, 3, none⟩) hz v3).setCell (p := ⟨z, 4, none⟩) hz v4
theorem Bx.turn {T : Nat → Prop} {w w' : World} {b : Nat} {X : ScX} (h : Bx w b X) (k : Turn T w w') (hT : ¬ T b) : Bx w' b X := by
  obtain ⟨⟨c0, c1, c2, c3, c4, c5⟩, hb⟩ := h
  exact ⟨⟨(k.cell (p := ⟨b, 0, none⟩) hb hT).trans c0, (k.cell (p := ⟨b, 1, none⟩) hb hT).trans c1, (k.cell (p := ⟨b, 2, none⟩) hb hT).trans c2, (k.cell (p := ⟨b, 3, none⟩) hb hT).trans c3, (k.cell (p := ⟨b, 4, none⟩) hb hT).trans c4, (k.cell (p := ⟨b, 5, none⟩) hb hT).trans c5⟩, Nat.lt_of_lt_of_le hb k.size⟩
/-- The law's cells, of any variable. -/
theorem lawCells_any (X : ScX) (sizes : List Int) (s : ByteArray) (x y p q r : Int) (w : World) (hn1 : X.n1 ≤ 1000000000000000) (h1 : X.n1 = sizes.length) (hA : SA w X.a1 sizes) :
    Calls Try.prog 17 #[.agg #[.string s, .int .i64 x, .int .i64 y, .int .i64 p, .int .i64 q, .int .i64 r], X.v] w (CellsP w (cellsL sizes x y)) := by
  by_cases h : x < 0 ∨ (X.n1 : Int) < x ∨ y < 0 ∨ (X.n1 : Int) < y
  · exact lawCells_out X sizes s x y p q r w hn1 h1 h
  · exact lawCells_in X sizes s x y p q r w hn1 h1 hA (by omega) (by omega)

theorem cell_first {w : World} {H : Nat} {u : Value} {t : TypeId} (h : w.heap[H]? = some (.cells #[u] t)) : w.cell? ((⟨H, 0, none⟩ : Addr).add 0) = some u := by
  rw [add_plain]
  simp [World.cell?, h]

theorem one_get {x u : Value} : ∀ {j : Nat}, [x][j]? = some u → j = 0 ∧ x = u
  | 0, h => ⟨rfl, Option.some.inj h⟩
  | _ + 1, h => by cases h

/-- What the law's cells tells of a variable that is there, where all sizes are small. -/
theorem cellsL_true {sizes : List Int} {x y cn cm : Int} (h : cellsL sizes x y = (cn, cm, true)) (hz : ∀ j, j < sizes.length → 1 ≤ sizes.getD j 0 ∧ sizes.getD j 0 ≤ 50) :
    (0 ≤ x ∧ x ≤ sizes.length ∧ 0 ≤ y ∧ y ≤ sizes.length) ∧ cn = (if 0 < y then sizes.getD (y - 1).toNat 0 else 1) ∧ cm = (if 0 < x then sizes.getD (x - 1).toNat 0 else 0) ∧ 1 ≤ cn ∧ cn ≤ 50 ∧ 0 ≤ cm ∧ cm ≤ 50 := by
  unfold cellsL at h
  split at h
  · cases h
  · next hc =>
    injection h with h1 h2
    injection h2 with h2 h3
    have h4 := of_decide_eq_true h3
    refine ⟨by omega, h1.symm, h2.symm, by omega, by omega, ?_, ?_⟩
    · rw [← h2]
      split
      · have := hz (x - 1).toNat (by omega); omega
      · omega
    · rw [← h2]
      split
      · have := hz (x - 1).toNat (by omega); omega
      · omega
/-- A number that may stand for a local. -/
def LocOk (S : Sc) (p : Int × Int) (z : Int) : Prop := (cellsL S.sizes p.1 p.2).2.2 = true ∧ FillOk (cellsL S.sizes p.1 p.2).2.1 z
/-- A row that may stand for a variable. -/
def VarOk (S : Sc) (p : Int × Int) (L : List Int) : Prop := (cellsL S.sizes p.1 p.2).2.2 = true ∧ (L.length : Int) = (cellsL S.sizes p.1 p.2).1 ∧ ∀ z ∈ L, FillOk (cellsL S.sizes p.1 p.2).2.1 z
/-- A row that may stand for a process. -/
def ProcOk (locs : Int) (L : List Int) : Prop := (L.length : Int) = max locs 0 ∧ ∀ z ∈ L, FillOk 6 z
theorem ia_first {w : World} {b : Nat} {L : List Int} (h : IA w (some ⟨b, 0, none⟩) L) (hl : 0 < L.length) : w.cell? ⟨b, 0, none⟩ = some (.int .i64 (L.getD 0 0)) := by
  obtain ⟨b1, o1, e1, _, hc⟩ := h hl
  injection e1 with e1
  injection e1 with e1 e2
  subst e1 e2
  exact hc 0 hl
theorem getD_mem {L : List Int} {j : Nat} (h : j < L.length) : L.getD j 0 ∈ L := by
  rw [show L.getD j 0 = L[j] by simp [List.getD, h]]
  exact List.getElem_mem _
theorem snoc_all {α : Type} {d : α} {l : List α} {x : α} {p : Nat → α → Prop} {k : Nat} (hk : l.length = k) (h : ∀ j, j < k → p j (l.getD j d)) (hx : p k x) : ∀ j, j < k + 1 → p j ((l ++ [x]).getD j d) := fun j hj => by
  by_cases hjk : j < k
  · rw [show (l ++ [x]).getD j d = l.getD j d by simp [List.getD, List.getElem?_append_left (show j < l.length by omega)]]
    exact h j hjk
  · obtain rfl : j = k := by omega
    rw [show (l ++ [x]).getD j d = x by subst hk; simp [List.getD]]
    exact hx

variable {P : Program}
/-- An append whose run is known, at a step of a region that draws its order. -/
theorem step_append_at {w w' : World} {ops : Array Oper} {o : Oper} {a : Act} {K : Act → World → Prop} {Q : Exit → Act → World → Prop} {E : Prop} {t : TypeId} {v u v' : Value} (hgd : o.guard = none) (s x : Operand)
    (ho : o.op = .call { callee := .builtin .append, args := #[s, x], argTypes := #[t, t] }) (hty : o.type = t) (hs : a.eval s = v) (hx : a.eval x = u)
    (hr : (Builtin.append_ #[t, t] t #[v, u]).run P w = .ok v' w') (h : K (a.put o.dst v') w') :
    if Region.wanted o (yielded ops a.tmps) = true then Oper.wp P o a w K Q else E := by
  have hw : Region.wanted o (yielded ops a.tmps) = true := by simp [Region.wanted, hgd]
  rw [if_pos hw]
  unfold Oper.wp execOp
  simp only [ho, resolve, invoke, builtin, Sem.run_bind, Sem.run_pure, Result.andThen_ok, List.map_toArray, List.map_cons, List.map_nil, hs, hx, hty, hr]
  exact h
/-- One number more, at such a step. -/
theorem step_int {w : World} {ops : Array Oper} {o : Oper} {a : Act} {K : Act → World → Prop} {Q : Exit → Act → World → Prop} {E : Prop} (base H : Nat) (hgd : o.guard = none) (s x : Operand)
    (ho : o.op = .call { callee := .builtin .append, args := #[s, x], argTypes := #[29, 29] }) (hty : o.type = 29) (v : Value) (l : List Int) (hs : a.eval s = v) (hown : OI base w v l) (z : Int) (hx : a.eval x = .slice (some ⟨H, 0, none⟩) 1 1) (hlen : l.length ≤ 1000) (hbase : base ≤ w.heap.size) (t2 : TypeId) (hH : w.heap[H]? = some (.cells #[.int .i64 z] t2)) (n : Nat) (hn : l.length + 1 = n)
    (h : ∀ A' c' w', OI base w' (.slice A' n c') (l ++ [z]) → Below base w w' → K (a.put o.dst (.slice A' n c')) w') :
    if Region.wanted o (yielded ops a.tmps) = true then Oper.wp Try.prog o a w K Q else E := by
  obtain ⟨i0, hi, hz0, hz1, hz2⟩ := info_parts Try.info3
  obtain ⟨v', w', hr, h2, h3, _, _⟩ := run_append_own_at (P := Try.prog) w base 29 29 3 i0 (.int .i64 0) 1 8 Try.underlying29 hi hz0 hz1 hz2 rfl (by decide) v l.length _ hown ⟨H, 0, none⟩ 1 1 [.int .i64 z] rfl (fun j u hu => by
    obtain ⟨rfl, rfl⟩ := one_get hu
    exact cell_first hH) (by simp [Value.oneCell']) (by unfold maxLen; omega) (by omega) hbase
  have h4 : OI base w' v' (l ++ [z]) := oi_snoc h2
  obtain ⟨A', c', rfl, _⟩ := h4.form
  rw [List.length_append, List.length_singleton, hn] at h4 hr
  exact step_append_at hgd s x ho hty hs hx hr (h A' c' w' h4 (Below.grown (Below.refl _ _) h3 hbase (fun k hk => (World.ownsRow.lt hown k hk).1)))
/-- A row of rows of the call's own: each row apart from it, from block base on. -/
structure OV (base : Nat) (w : World) (v : Value) (VL : List (List Int)) : Prop where
  own : ∃ cs, w.ownsRow base 29 1 v VL.length cs ∧ ∀ i, i < VL.length → ∃ A c, cs[i]? = some (.slice A (VL.getD i []).length c) ∧ (VL.getD i []).length ≤ 1000 ∧ IA w A (VL.getD i []) ∧ ∀ a, A = some a → base ≤ a.block ∧ v.ownBlock ≠ some a.block ∧ a.block < w.heap.size
theorem OV.nil (base : Nat) (w : World) : OV base w (.slice none 0 0) [] := ⟨[], World.ownsRow_nil _ _ _ _, fun i hi => absurd hi (by simp)⟩
theorem OV.turn {T : Nat → Prop} {base : Nat} {w w' : World} {v : Value} {VL : List (List Int)} (h : OV base w v VL) (k : Turn T w w') (hT : ∀ q, T q → q < base) : OV base w' v VL := by
  obtain ⟨cs, ho, hr⟩ := h.own
  refine ⟨cs, ?_, fun i hi => ?_⟩
  · obtain ⟨h1, h2⟩ := ho
    refine ⟨h1, ?_⟩
    rcases h2 with h2 | ⟨g, cap, cur, e, hb, hg, r⟩
    · exact .inl h2
    · refine .inr ⟨g, cap, cur, e, hb, ?_, r⟩
      rw [k.block g (Array.getElem?_eq_some_iff.1 hg).1 (fun hq => by have := hT g hq; omega)]
      exact hg
  · obtain ⟨A, c, e, hl, hi2, ha⟩ := hr i hi
    exact ⟨A, c, e, hl, hi2.turn k (fun a ea hq => by have := hT _ hq; have := (ha a ea).1; omega), fun a ea => ⟨(ha a ea).1, (ha a ea).2.1, Nat.lt_of_lt_of_le (ha a ea).2.2 k.size⟩⟩
theorem OV.ri {base : Nat} {w : World} {v : Value} {VL : List (List Int)} (h : OV base w v VL) : ∃ A c, v = .slice A VL.length c ∧ RI w A VL := by
  obtain ⟨cs, ho, hr⟩ := h.own
  rcases ho.2 with ⟨e, h0⟩ | ⟨g, cap, cur, e, hb, hg, h1, h2, h3, h4⟩
  · exact ⟨none, 0, by rw [e, h0], fun hn => by omega⟩
  · refine ⟨_, cap, e, fun hn => ⟨g, 0, rfl, (Array.getElem?_eq_some_iff.1 hg).1, fun i hi => ?_⟩⟩
    obtain ⟨A, c, ec, hl, hi2, _⟩ := hr i hi
    subst e
    refine ⟨A, c, ?_, by omega, hi2⟩
    rw [Nat.zero_add, World.ownsRow.cellAt ho i (by omega)]
    exact ec
/-- One row more, at a step of a region that draws its order. -/
theorem step_row {w : World} {ops : Array Oper} {o : Oper} {a : Act} {K : Act → World → Prop} {Q : Exit → Act → World → Prop} {E : Prop} (base H : Nat) (hgd : o.guard = none) (s x : Operand)
    (ho : o.op = .call { callee := .builtin .append, args := #[s, x], argTypes := #[31, 31] }) (hty : o.type = 31) (v : Value) (VL : List (List Int)) (hs : a.eval s = v) (hown : OV base w v VL) (L : List Int) (b q d : Nat) (hx : a.eval x = .slice (some ⟨H, 0, none⟩) 1 1) (hlen : VL.length ≤ 1000) (hbase : base ≤ w.heap.size) (t2 : TypeId) (hH : w.heap[H]? = some (.cells #[.slice (some ⟨b, 0, none⟩) q d] t2)) (n : Nat) (hn : VL.length + 1 = n)
    (hq : q = L.length) (hl : L.length ≤ 1000) (hL : IA w (some ⟨b, 0, none⟩) L) (hb : base ≤ b ∧ b < w.heap.size) (hne : v.ownBlock ≠ some b)
    (h : ∀ A' c' w', OV base w' (.slice A' n c') (VL ++ [L]) → Below base w w' → w.grownBy w' v.ownBlock → K (a.put o.dst (.slice A' n c')) w') :
    if Region.wanted o (yielded ops a.tmps) = true then Oper.wp Try.prog o a w K Q else E := by
  obtain ⟨cs, hw, hr0⟩ := hown.own
  obtain ⟨i0, hi, hz0, hz1, hz2⟩ := info_parts (show (Try.prog.info? 29).map (fun i => (i.zero, i.size, i.bytes)) = some (some (.slice none 0 0), 1, 24) by kernel_rfl)
  obtain ⟨v', w', hr, h2, h3, _, h5⟩ := run_append_own_at (P := Try.prog) w base 31 31 29 i0 (.slice none 0 0) 1 24 Try.underlying31 hi hz0 hz1 hz2 rfl (by decide) v VL.length _ hw ⟨H, 0, none⟩ 1 1 [.slice (some ⟨b, 0, none⟩) q d] rfl (fun j u hu => by
    obtain ⟨rfl, rfl⟩ := one_get hu
    exact cell_first hH) (by simp [Value.oneCell']) (by unfold maxLen; omega) (by omega) hbase
  have far : ∀ k, k < w.heap.size → v.ownBlock ≠ some k → w'.heap[k]? = w.heap[k]? := fun k hk hne => h3.block k hk (fun e => hne e.symm)
  have own' : ∀ k, k < w.heap.size → v.ownBlock ≠ some k → v'.ownBlock ≠ some k := fun k hk hne e => by
    rcases h5 with h5 | h5
    · exact hne (h5 ▸ e)
    · rw [h5] at e
      injection e with e
      omega
  have keep : ∀ (A : Option Addr) (l : List Int), IA w A l → (∀ a, A = some a → base ≤ a.block ∧ v.ownBlock ≠ some a.block ∧ a.block < w.heap.size) → IA w' A l := fun A l hA ha hn => by
    obtain ⟨b1, o1, e1, hb1, hc1⟩ := hA hn
    have h6 := ha _ e1
    exact ⟨b1, o1, e1, Nat.lt_of_lt_of_le hb1 h3.size, fun i hi => (World.cell?_of_block (far b1 hb1 h6.2.1)).trans (hc1 i hi)⟩
  have hcs : cs.length = VL.length := by have := hw.1; omega
  have h4 : OV base w' v' (VL ++ [L]) := by
    refine ⟨cs ++ [.slice (some ⟨b, 0, none⟩) q d], by rw [List.length_append]; exact h2, fun i hi => ?_⟩
    rw [List.length_append, List.length_singleton] at hi
    by_cases hik : i < VL.length
    · obtain ⟨A, c, e, hl2, hi2, ha⟩ := hr0 i hik
      have eg : (VL ++ [L]).getD i [] = VL.getD i [] := by simp [List.getD, List.getElem?_append_left hik]
      rw [eg]
      exact ⟨A, c, by rw [List.getElem?_append_left (by omega)]; exact e, hl2, keep A _ hi2 ha, fun a ea => ⟨(ha a ea).1, own' _ (ha a ea).2.2 (ha a ea).2.1, Nat.lt_of_lt_of_le (ha a ea).2.2 h3.size⟩⟩
    · obtain rfl : i = VL.length := by omega
      have eg : (VL ++ [L]).getD VL.length [] = L := by simp [List.getD]
      rw [eg]
      refine ⟨some ⟨b, 0, none⟩, d, ?_, hl, keep _ _ hL (fun a ea => ?_), fun a ea => ?_⟩
      · rw [List.getElem?_append_right (by omega), hcs, ← hq]
        simp
      · injection ea with ea
        subst ea
        exact ⟨hb.1, hne, hb.2⟩
      · injection ea with ea
        subst ea
        exact ⟨hb.1, own' _ hb.2 hne, Nat.lt_of_lt_of_le hb.2 h3.size⟩
  obtain ⟨A', c', rfl, _⟩ := h4.ri
  rw [List.length_append, List.length_singleton, hn] at h4 hr
  exact step_append_at hgd s x ho hty hs hx hr (h A' c' w' h4 (Below.grown (Below.refl _ _) h3 hbase (fun k hk => (World.ownsRow.lt hw k hk).1)) h3)
end Go.Proofs.YtodloljpfbkkjaaRRRR.lenv
