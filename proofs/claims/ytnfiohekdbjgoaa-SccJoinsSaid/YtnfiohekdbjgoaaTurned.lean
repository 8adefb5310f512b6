/- Contracts of package graph: turned. -/
import Derived.Test.YtnfiohekdbjgoaaLead
import Derived.Test.YtnfiohekdbjgoaaLift
namespace Go.Proofs.Ytnfiohekdbjgoaa
open Go.ChangeShapes Go.WideShapes Go.ChangeAt Go.RowKit Go.Shelf

attribute [local go_sem] Oper.semAt_some

/-- The cells of a row of edges. -/
def flat (l : List (Int × Int)) : List Value := l.flatMap fun e => [.int .i64 e.1, .int .i64 e.2]
theorem flat_snoc (l : List (Int × Int)) (x : Int × Int) : flat (l ++ [x]) = flat l ++ [.int .i64 x.1, .int .i64 x.2] := by simp [flat]

/-- Rows of edges of the call's own: a table in block t, the rows in blocks from base on, no two in one. -/
structure OR (w : World) (base t n : Nat) (vs : Nat → Value) (l : Nat → List (Int × Int)) : Prop where
  tab : w.rowIs t 39 n vs
  own : ∀ i, i < n → w.ownsRow base 46 2 (vs i) (l i).length (flat (l i))
  apart : ∀ i, i < n → ∀ j, j < n → i ≠ j → (vs i).ownBlock = none ∨ (vs i).ownBlock ≠ (vs j).ownBlock
  lt : t < base

theorem OR.kept {w w' : World} {base t n : Nat} {vs : Nat → Value} {l : Nat → List (Int × Int)} (h : OR w base t n vs l) {row : Option Nat} (hg : w.grownBy w' row) (hr : ∀ r, row = some r → ∃ o : Obj, w.heap[r]? = some o ∧ o.isCells = false) : OR w' base t n vs l := by
  refine ⟨h.tab.of_block (hg.block t h.tab.lt (fun e => ?_)), fun i hi => (h.own i hi).kept hg ?_, h.apart, h.lt⟩
  · obtain ⟨o, ho, hc⟩ := hr t e.symm
    obtain ⟨c, hc2, _⟩ := h.tab
    rw [hc2] at ho
    cases ho
    cases hc
  · rcases hv : (vs i).ownBlock with _ | g
    · exact .inl rfl
    · refine .inr fun e => ?_
      obtain ⟨o, ho, hc⟩ := hr g e.symm
      rcases (h.own i hi).2 with ⟨h1, _⟩ | ⟨g', cap, cur, h1, _, hgg, _⟩
      · rw [h1] at hv; cases hv
      · rw [h1] at hv
        cases hv
        rw [hgg] at ho
        cases ho
        cases hc

theorem OR.step {w w' : World} {base t n : Nat} {vs : Nat → Value} {l : Nat → List (Int × Int)} (h : OR w base t n vs l) {i : Nat} (hi : i < n) {v' : Value} {x : Int × Int}
    (hown : w'.ownsRow base 46 2 v' ((l i).length + 1) (flat (l i) ++ [.int .i64 x.1, .int .i64 x.2])) (hg : w.grownBy w' (vs i).ownBlock) (hb : v'.ownBlock = (vs i).ownBlock ∨ v'.ownBlock = some w.heap.size) :
    OR (w'.setCell ⟨t, i, none⟩ v') base t n (fun j => if j = i then v' else vs j) (fun j => if j = i then l i ++ [x] else l j) := by
  have hbt : some t ≠ (vs i).ownBlock := fun e => by have := ((h.own i hi).lt t e.symm).1; have := h.lt; omega
  have hsep : ∀ j, j < n → j ≠ i → (vs j).ownBlock = none ∨ (vs j).ownBlock ≠ v'.ownBlock := fun j hj hji => by
    rcases hv : (vs j).ownBlock with _ | g
    · exact .inl rfl
    · right
      rw [← hv]
      rcases hb with hb | hb
      · rw [hb]
        rcases h.apart j hj i hi hji with h1 | h1
        · rw [h1] at hv; cases hv
        · exact h1
      · rw [hb, hv]
        intro e
        have := ((h.own j hj).lt g hv).2
        cases e
        omega
  refine ⟨(h.tab.of_block (hg.block t h.tab.lt hbt)).set i v', fun j hj => ?_, fun j hj k hk hjk => ?_, h.lt⟩
  · by_cases e : j = i
    · subst e
      simp only [if_true]
      rw [flat_snoc, List.length_append, List.length_singleton]
      exact ownsRow_setCell_below hown h.lt _
    · simp only [if_neg e]
      exact ownsRow_setCell_below ((h.own j hj).kept hg (h.apart j hj i hi e)) h.lt _
  · by_cases ej : j = i
    · subst ej
      simp only [if_true, if_neg (fun e => hjk (e : k = j).symm)]
      rcases hsep k hk (fun e => hjk e.symm) with h1 | h1
      · rcases hv : v'.ownBlock with _ | g
        · exact .inl rfl
        · exact .inr (by rw [h1]; simp)
      · exact .inr fun e => h1 e.symm
    · by_cases ek : k = i
      · subst ek
        simp only [if_true, if_neg ej]
        exact hsep j hj ej
      · simp only [if_neg ej, if_neg ek]
        exact h.apart j hj k hk hjk

/-- The edges turned about that lead out of node i. -/
def turnL (pre : List (Nat × (Int × Int))) (i : Nat) : List (Int × Int) := (pre.filter fun x => decide (x.2.1 = (i : Int))).map fun x => ((x.1 : Int), x.2.2)
theorem turnL_snoc (pre : List (Nat × (Int × Int))) (a i : Nat) (ac : Int) (j : Nat) : turnL (pre ++ [(a, ((i : Int), ac))]) j = if j = i then turnL pre i ++ [((a : Int), ac)] else turnL pre j := by
  unfold turnL
  rw [List.filter_append, List.map_append]
  by_cases e : j = i
  · subst e; simp
  · have : ¬ ((i : Int) = (j : Int)) := by omega
    simp [e, this]
theorem turnL_le (pre : List (Nat × (Int × Int))) (i : Nat) : (turnL pre i).length ≤ pre.length := by
  unfold turnL
  rw [List.length_map]
  exact List.length_filter_le _ _
theorem leadTo_node {rows : List (List (Int × Int))} {k : Nat} : ∀ x ∈ leadTo rows k, nodeB rows.length x.2.1 = true := by
  induction k with
  | zero => intro x hx; simp [leadTo] at hx
  | succ k ih =>
    intro x hx
    rw [leadTo] at hx
    rcases List.mem_append.1 hx with hx | hx
    · exact ih x hx
    · unfold rowL at hx
      obtain ⟨e, he, rfl⟩ := List.mem_map.1 hx
      exact (List.mem_filter.1 he).2
theorem lt_of_cell' {w : World} {q : Addr} {v : Value} (h : w.cell? q = some v) : q.block < w.heap.size := by
  rcases Nat.lt_or_ge q.block w.heap.size with hlt | hge
  · exact hlt
  · simp [World.cell?, Array.getElem?_eq_none hge] at h

/-- An append to a row of edges whose run is known, at a step of a region that draws its order. -/
theorem step_append_row {w w' : World} {ops : Array Oper} {o : Oper} {a : Act} {K : Act → World → Prop} {Q : Exit → Act → World → Prop} {E : Prop} {v u v' : Value} (hgd : o.guard = none) (s x : Operand)
    (ho : o.op = .call { callee := .builtin .append, args := #[s, x], argTypes := #[39, 39] }) (hty : o.type = 39) (hs : a.eval s = v) (hx : a.eval x = u)
    (hr : (Builtin.append_ #[39, 39] 39 #[v, u]).run Try.prog w = .ok v' w') (h : K (a.put o.dst v') w') :
    if Region.wanted o (yielded ops a.tmps) = true then Oper.wp Try.prog o a w K Q else E := by
  have hw : Region.wanted o (yielded ops a.tmps) = true := by simp [Region.wanted, hgd]
  rw [if_pos hw]
  unfold Oper.wp execOp
  simp only [ho, resolve, invoke, builtin, Sem.run_bind, Sem.run_pure, Result.andThen_ok, List.map_toArray, List.map_cons, List.map_nil, hs, hx, hty, hr]
  exact h

/-- What stands behind each edge. -/
def TJ (w : World) (n : Nat) (s : Nat) (pre : List (Led n)) (W : World) : Prop :=
  ∃ vs, OR W (s + 3) s n vs (turnL (pre.map Led.e)) ∧ W.heap[s + 1]? = some (.cells #[.slice (some ⟨s, 0, none⟩) n n] 55 (0, 0)) ∧ Below w.heap.size w W ∧ s + 3 ≤ W.heap.size

/-- What stands behind the assignment of an edge: it lies in a block that is no row's. -/
def TX (n s : Nat) (base : Array Value) (x : Led n) (a : Act) (W : World) : Prop :=
  ∃ e, s + 3 ≤ e ∧ W.heap[e]? = some (.cells #[.int .i64 x.e.2.1, .int .i64 x.e.2.2] 46 (0, 0)) ∧ (∃ f, W.rowIs s 39 n f ∧ ∀ j, j < n → (f j).ownBlock ≠ some e) ∧
    a = { tmps := (((base.setIfInBounds 11 (.int .i64 x.e.1)).setIfInBounds 12 (.agg #[.int .i64 x.e.2.1, .int .i64 x.e.2.2])).setIfInBounds 4 (.int .i64 x.e.1)).setIfInBounds 5 (.pointer (some ⟨e, 0, none⟩)), defers := [] }

theorem TX.own (n s : Nat) (base : Array Value) (B : Nat) (x : Led n) (a : Act) : OwnFrom B (fun (_ : Unit) W => TX n s base x a W) := by
  rintro _ W W' row ⟨e, he, hc, ⟨f, hf, hj⟩, ha⟩ hg hr
  refine ⟨e, he, (hg.block e (Array.getElem?_eq_some_iff.1 hc).1 (fun e1 => ?_)).trans hc, ⟨f, hf.of_block (hg.block s hf.lt (fun e1 => ?_)), hj⟩, ha⟩
  · obtain ⟨_, o, ho, hcc⟩ := hr e e1.symm
    rw [hc] at ho; cases ho; cases hcc
  · obtain ⟨_, o, ho, hcc⟩ := hr s e1.symm
    obtain ⟨cs, h2, _⟩ := hf
    rw [h2] at ho; cases ho; cases hcc

theorem TJ.own (w : World) (n s B : Nat) (hB : w.heap.size ≤ B) : OwnFrom B (TJ w n s) := by
  rintro pre W W' row ⟨vs, h1, h2, h3, h4⟩ hg hr
  have hr' : ∀ r, row = some r → ∃ o : Obj, W.heap[r]? = some o ∧ o.isCells = false := fun r e => (hr r e).2
  refine ⟨vs, h1.kept hg hr', (hg.block _ (Array.getElem?_eq_some_iff.1 h2).1 (fun e1 => ?_)).trans h2, ⟨hg.os.trans h3.os, hg.tape.trans h3.tape, hg.output.trans h3.output, Nat.le_trans h3.size hg.size, fun k hk => (hg.block k (Nat.lt_of_lt_of_le hk h3.size) (fun e1 => ?_)).trans (h3.block k hk)⟩, Nat.le_trans h4 hg.size⟩
  · obtain ⟨o, ho, hcc⟩ := hr' _ e1.symm
    rw [h2] at ho; cases ho; cases hcc
  · have := (hr k e1.symm).1
    omega

set_option maxHeartbeats 2000000 in
/-- One round of turned: what the append and the store leave. -/
theorem turned_round (w W : World) (n i e a B : Nat) (ac : Int) (N : Nat) (pre : List (Led n)) (his : nodeB n (i : Int) = true) (hal : a < n) (hin : i < n) (vs : Nat → Value) (hor : OR W (w.heap.size + 3) w.heap.size n vs (turnL (pre.map Led.e)))
    (hbx : W.heap[w.heap.size + 1]? = some (.cells #[.slice (some ⟨w.heap.size, 0, none⟩) n n] 55 (0, 0))) (hbel : Below w.heap.size w W) (hsz : w.heap.size + 3 ≤ W.heap.size) (he : w.heap.size + 3 ≤ e) (hne2 : some e ≠ (vs i).ownBlock) (hlen : pre.length < N) (hTT : N * 16 ≤ 140737488355328)
    (hS1 : (W.drew.alloc (.cells #[.int .i64 (a : Int), .int .i64 ac] 46)).cell? ⟨w.heap.size + 1, 0, none⟩ = some (.slice (some ⟨w.heap.size, 0, none⟩) n n) ∧ (W.drew.alloc (.cells #[.int .i64 (a : Int), .int .i64 ac] 46)).cell? ⟨e, 0, none⟩ = some (.int .i64 (i : Int)) ∧ (W.drew.alloc (.cells #[.int .i64 (a : Int), .int .i64 ac] 46)).cell? ⟨e, 1, none⟩ = some (.int .i64 ac)) :
    ∃ g' cap' w', (Builtin.append_ #[39, 39] 39 #[vs i, .slice (some ⟨W.heap.size, 0, none⟩) 1 1]).run Try.prog (W.drew.alloc (.cells #[.int .i64 (a : Int), .int .i64 ac] 46)) = .ok (.slice (some ⟨g', 0, none⟩) ((turnL (pre.map Led.e) i).length + 1) cap') w' ∧
      (w'.cell? ⟨w.heap.size + 1, 0, none⟩ = some (.slice (some ⟨w.heap.size, 0, none⟩) n n) ∧ w'.cell? ⟨e, 0, none⟩ = some (.int .i64 (i : Int)) ∧ w'.cell? ⟨e, 1, none⟩ = some (.int .i64 ac)) ∧ w'.cell? ⟨w.heap.size, i, none⟩ = some (vs i) ∧ w'.frozen? ⟨w.heap.size, i, none⟩ = false ∧
      ((w'.setCell ⟨w.heap.size, i, none⟩ (.slice (some ⟨g', 0, none⟩) ((turnL (pre.map Led.e) i).length + 1) cap')).cell? ⟨w.heap.size + 1, 0, none⟩ = some (.slice (some ⟨w.heap.size, 0, none⟩) n n) ∧ (w'.setCell ⟨w.heap.size, i, none⟩ (.slice (some ⟨g', 0, none⟩) ((turnL (pre.map Led.e) i).length + 1) cap')).cell? ⟨e, 0, none⟩ = some (.int .i64 (i : Int)) ∧ (w'.setCell ⟨w.heap.size, i, none⟩ (.slice (some ⟨g', 0, none⟩) ((turnL (pre.map Led.e) i).length + 1) cap')).cell? ⟨e, 1, none⟩ = some (.int .i64 ac)) ∧
      KeepsFrom B W (w'.setCell ⟨w.heap.size, i, none⟩ (.slice (some ⟨g', 0, none⟩) ((turnL (pre.map Led.e) i).length + 1) cap')) ∧ KS (fun q => q < w.heap.size ∨ q = w.heap.size + 1 + 1) W (w'.setCell ⟨w.heap.size, i, none⟩ (.slice (some ⟨g', 0, none⟩) ((turnL (pre.map Led.e) i).length + 1) cap')) ∧ TJ w n w.heap.size (pre ++ [⟨(a, ((i : Int), ac)), his, hal⟩]) (w'.setCell ⟨w.heap.size, i, none⟩ (.slice (some ⟨g', 0, none⟩) ((turnL (pre.map Led.e) i).length + 1) cap')) := by
  have hord : OR W.drew (w.heap.size + 3) w.heap.size n vs (turnL (pre.map Led.e)) := ⟨hor.tab, hor.own, hor.apart, hor.lt⟩
  have hor1 : OR (W.drew.alloc (.cells #[.int .i64 (a : Int), .int .i64 ac] 46)) (w.heap.size + 3) w.heap.size n vs (turnL (pre.map Led.e)) := hord.kept (World.grownBy_alloc W.drew _ none) (fun r e => by cases e)
  obtain ⟨i1, hi1, hy0, hy1, hy2⟩ := info_parts (show (Try.prog.info? 46).map (fun i => (i.zero, i.size, i.bytes)) = some (some (.agg #[.int .i64 0, .int .i64 0]), 2, 16) by kernel_rfl)
  have hle := turnL_le (pre.map Led.e) i
  rw [List.length_map] at hle
  obtain ⟨v', w', hr, hown', hg, _, hb⟩ := run_append_own_at (P := Try.prog) (W.drew.alloc (.cells #[.int .i64 (a : Int), .int .i64 ac] 46)) (w.heap.size + 3) 39 39 46 i1 (.agg #[.int .i64 0, .int .i64 0]) 2 16 (by kernel_rfl) hi1 hy0 hy1 hy2 rfl (by decide) (vs i) (turnL (pre.map Led.e) i).length _ (hor1.own i hin) ⟨W.heap.size, 0, none⟩ 1 1 [.int .i64 (a : Int), .int .i64 ac] rfl (fun j u hju => by
    rw [add_plain]
    rcases j with _ | _ | j
    · obtain rfl := Option.some.inj hju
      exact cell_of_row _ _ 0 _ _ _ (World.alloc_heap_new W.drew _)
    · obtain rfl := Option.some.inj hju
      exact cell_of_row _ _ 1 _ _ _ (World.alloc_heap_new W.drew _)
    · simp at hju) (fun u hu => by
    simp only [List.mem_cons, List.not_mem_nil, or_false] at hu
    rcases hu with rfl | rfl <;> simp [Value.oneCell']) (by unfold maxLen; omega) (by omega) (by rw [World.size_alloc]; show w.heap.size + 3 ≤ W.heap.size + 1; omega)
  obtain ⟨g', cap', rfl⟩ := ownsRow_succ hown'
  have hlt := (hor.own i hin).lt
  have hne0 : some w.heap.size ≠ (vs i).ownBlock := fun e1 => by have := (hlt _ e1.symm).1; omega
  have hne1 : some (w.heap.size + 1) ≠ (vs i).ownBlock := fun e1 => by have := (hlt _ e1.symm).1; omega
  have hS2 : w'.cell? ⟨w.heap.size + 1, 0, none⟩ = some (.slice (some ⟨w.heap.size, 0, none⟩) n n) ∧ w'.cell? ⟨e, 0, none⟩ = some (.int .i64 (i : Int)) ∧ w'.cell? ⟨e, 1, none⟩ = some (.int .i64 ac) := ⟨hg.cell hS1.1 hne1, hg.cell hS1.2.1 hne2, hg.cell hS1.2.2 hne2⟩
  have htab := hor1.tab.of_block (hg.block _ hor1.tab.lt hne0)
  have g6 := htab.cell hin
  have g7 := htab.frozen i
  have hS3 : (w'.setCell ⟨w.heap.size, i, none⟩ (.slice (some ⟨g', 0, none⟩) ((turnL (pre.map Led.e) i).length + 1) cap')).cell? ⟨w.heap.size + 1, 0, none⟩ = some (.slice (some ⟨w.heap.size, 0, none⟩) n n) ∧ (w'.setCell ⟨w.heap.size, i, none⟩ (.slice (some ⟨g', 0, none⟩) ((turnL (pre.map Led.e) i).length + 1) cap')).cell? ⟨e, 0, none⟩ = some (.int .i64 (i : Int)) ∧ (w'.setCell ⟨w.heap.size, i, none⟩ (.slice (some ⟨g', 0, none⟩) ((turnL (pre.map Led.e) i).length + 1) cap')).cell? ⟨e, 1, none⟩ = some (.int .i64 ac) :=
    ⟨(World.cell?_of_block (Below.heap_setCell w' _ _ _ (by show w.heap.size + 1 ≠ w.heap.size; omega))).trans hS2.1, (World.cell?_of_block (Below.heap_setCell w' _ _ _ (by show e ≠ w.heap.size; omega))).trans hS2.2.1, (World.cell?_of_block (Below.heap_setCell w' _ _ _ (by show e ≠ w.heap.size; omega))).trans hS2.2.2⟩
  have hz1 := hg.size
  rw [World.size_alloc] at hz1
  have hz2 : W.drew.heap.size = W.heap.size := rfl
  have hstep := hor1.step hin (x := ((a : Int), ac)) hown' hg hb
  have hblk : ∀ k, k < W.heap.size → some k ≠ (vs i).ownBlock → k ≠ w.heap.size → (w'.setCell ⟨w.heap.size, i, none⟩ (.slice (some ⟨g', 0, none⟩) ((turnL (pre.map Led.e) i).length + 1) cap')).heap[k]? = W.heap[k]? := fun k hk h1 h2 =>
    ((Below.heap_setCell w' _ _ k h2).trans (hg.block k (by rw [World.size_alloc]; omega) h1)).trans (Below.heap_alloc _ _ _ hk)
  have hbz := hbel.size
  refine ⟨g', cap', w', hr, hS2, g6, g7, hS3, ⟨by rw [show (w'.setCell ⟨w.heap.size, i, none⟩ (.slice (some ⟨g', 0, none⟩) ((turnL (pre.map Led.e) i).length + 1) cap')).heap.size = w'.heap.size by simp]; omega, fun k o hk hko hoc => (hblk k (Array.getElem?_eq_some_iff.1 hko).1 (fun e1 => ?_) (fun e1 => ?_)).trans hko⟩, fun q hq => hblk q (by omega) (fun e1 => by have := (hlt _ e1.symm).1; omega) (by omega), ⟨fun j => if j = i then (.slice (some ⟨g', 0, none⟩) ((turnL (pre.map Led.e) i).length + 1) cap') else vs j, ?_, (hblk _ (by omega) hne1 (by omega)).trans hbx, ⟨?_, ?_, ?_, ?_, fun k hk => ?_⟩, ?_⟩⟩
  · rcases (hor.own i hin).2 with ⟨h, _⟩ | ⟨g, cap, cur, h, _, hgg, _⟩
    · rw [h] at e1; cases e1
    · rw [h] at e1; cases e1
      rw [hgg] at hko; cases hko; cases hoc
  · obtain ⟨cs, h2, _⟩ := hor.tab
    rw [e1, h2] at hko; cases hko; cases hoc
  · rw [show turnL (List.map Led.e (pre ++ [⟨(a, ((i : Int), ac)), his, hal⟩])) = fun j => if j = i then turnL (pre.map Led.e) i ++ [((a : Int), ac)] else turnL (pre.map Led.e) j by
      funext j
      rw [List.map_append]
      exact turnL_snoc _ a i ac j]
    exact hstep
  · exact hg.os.trans hbel.os
  · exact hg.tape.trans hbel.tape
  · exact hg.output.trans hbel.output
  · simp; omega
  · exact (hblk k (by omega) (fun e1 => by have := (hlt _ e1.symm).1; omega) (by omega)).trans (hbel.block k hk)
  · simp; omega

set_option maxRecDepth 100000 in
set_option maxHeartbeats 8000000 in
theorem turned_any (A : Option Addr) (n c : Nat) (rows : List (List (Int × Int))) (w : World) (hn : n = rows.length) (hR : RA w A rows) (hrl : n * 24 ≤ 140737488355328) (hT : (leadTo rows n).length * 16 ≤ 140737488355328) :
    Calls Try.prog 58 #[.slice A n c] w fun e w' => e = .returned (.slice (some ⟨w.heap.size, 0, none⟩) n n) ∧ (∃ vs, OR w' (w.heap.size + 3) w.heap.size n vs (turnL (leadTo rows n))) ∧ Below w.heap.size w w' := by
  obtain ⟨i0, hi, hz0, hz1, hz2⟩ := info_parts (show (Try.prog.info? 39).map (fun i => (i.zero, i.size, i.bytes)) = some (some (.slice none 0 0), 1, 24) by kernel_rfl)
  have hmk : ∀ W : World, (Instr.makeSlice 55 (.int .i64 (n : Int)) (.int .i64 (n : Int))).run Try.prog W = .ok (.slice (some ⟨W.heap.size, 0, none⟩) n n) (W.alloc (.cells (madeCells #[.slice none 0 0] n) 39)) := fun W => by
    have hr := run_make (P := Try.prog) W 55 39 i0 _ (by kernel_rfl) hi hz0 .i64 .i64 (n : Int) (n : Int) (by omega) (Int.le_refl _) (by rw [hz2]; omega) (by omega)
    rw [hr, hz1]
    rw [Int.toNat_natCast, Nat.mul_one]
    rfl
  have HR := Lib.hid hR
  have HN := Lib.hid hn
  have HT := Lib.hid hT
  clear hi hz0 hz1 hz2 hR hn hT
  refine (callsIn_wide (n := 5)).1 ?_
  refine callsIn_of_wp_marks Try.func58 rfl trivial ?_ rfl
  simp only [Try.ntmps58, List.size_toArray, List.length_cons, List.length_nil, Nat.reduceAdd, Nat.reduceSub, Array.replicate_succ, Array.replicate_zero, List.push_toArray, List.append_toArray, List.nil_append, List.cons_append]
  gi_wp2_with fail
  refine ⟨trivial, ?_⟩
  refine (callsIn_wide.2 (leading_any A n c _)).mono ?_
  rintro e w2 ⟨rfl, rfl⟩
  gi_wp2_with fail
  clear hmk
  have b2 := World.alloc_heap_new ((w.alloc (.cells (madeCells #[.slice none 0 0] n) 39)).alloc (.cells #[.slice (some ⟨w.heap.size, 0, none⟩) n n] 55)) (.cells #[.slice A n c] 55)
  have b1 : (((w.alloc (.cells (madeCells #[.slice none 0 0] n) 39)).alloc (.cells #[.slice (some ⟨w.heap.size, 0, none⟩) n n] 55)).alloc (.cells #[.slice A n c] 55)).heap[w.heap.size + 1]? = some (.cells #[.slice (some ⟨w.heap.size, 0, none⟩) n n] 55 (0, 0)) := by
    rw [Below.heap_alloc _ _ _ (by simp)]
    have h := World.alloc_heap_new (w.alloc (.cells (madeCells #[.slice none 0 0] n) 39)) (.cells #[.slice (some ⟨w.heap.size, 0, none⟩) n n] 55)
    simp only [World.size_alloc] at h
    exact h
  have b0 : (((w.alloc (.cells (madeCells #[.slice none 0 0] n) 39)).alloc (.cells #[.slice (some ⟨w.heap.size, 0, none⟩) n n] 55)).alloc (.cells #[.slice A n c] 55)).rowIs w.heap.size 39 n (fun _ => .slice none 0 0) :=
    (World.rowIs_made w (.slice none 0 0) n 39).of_block ((Below.heap_alloc _ _ _ (by simp; omega)).trans (Below.heap_alloc _ _ _ (by simp)))
  have bz : (((w.alloc (.cells (madeCells #[.slice none 0 0] n) 39)).alloc (.cells #[.slice (some ⟨w.heap.size, 0, none⟩) n n] 55)).alloc (.cells #[.slice A n c] 55)).heap.size = w.heap.size + 3 := by simp
  have bB : Below w.heap.size w (((w.alloc (.cells (madeCells #[.slice none 0 0] n) 39)).alloc (.cells #[.slice (some ⟨w.heap.size, 0, none⟩) n n] 55)).alloc (.cells #[.slice A n c] 55)) := (((Below.refl _ w).alloc (Nat.le_refl _) _).alloc (by simp) _).alloc (by simp; omega) _
  simp only [World.size_alloc] at b2
  generalize (((w.alloc (.cells (madeCells #[.slice none 0 0] n) 39)).alloc (.cells #[.slice (some ⟨w.heap.size, 0, none⟩) n n] 55)).alloc (.cells #[.slice A n c] 55)) = W0 at *
  obtain rfl := HN.out
  have hK : ∀ q, (q < w.heap.size ∨ q = w.heap.size + 1 + 1) → q < W0.heap.size := fun q hq => by omega
  have hst := leading_stops w W0 (w.heap.size + 1 + 1) c A rows HR.out (by omega) bB.size (fun q hq => bB.block q hq) b2
  have HW0 := Lib.hid bB
  have hzz : w.heap.size ≤ W0.heap.size := by omega
  refine wpIn_rangeFunc_ownH (F := Fence.wide) (n := 5) rfl (by omega) (gf := 81) (lb := #[.pointer (some ⟨w.heap.size + 1 + 1, 0, none⟩)]) rfl trivial (enters_of Try.func81 (by kernel_rfl) rfl)
    hst KS.trans (KS.back hK) (Below.refl _ _) (fun _ => rfl) (TJ w rows.length w.heap.size) (fun _ _ _ => False) (TJ.own w rows.length w.heap.size _ hzz) (fun _ _ _ _ _ hs _ _ => hs) ?h0
    (TX rows.length w.heap.size #[.slice A rows.length c, undef, .slice none 0 0, .pointer (some ⟨w.heap.size + 1, 0, none⟩), undef, undef, .slice A rows.length c, .int .i64 rows.length, .slice (some ⟨w.heap.size, 0, none⟩) rows.length rows.length, .slice A rows.length c, .func (.func 81) #[] #[.pointer (some ⟨w.heap.size + 1 + 1, 0, none⟩)], undef, undef, undef, undef, undef, undef, undef, undef, undef, undef, undef, undef, undef, undef, undef, undef, undef, undef]) (TX.own _ _ _ _) ?assign ?body ?done ?stop
  case h0 =>
    refine ⟨fun _ => .slice none 0 0, ⟨b0, fun i _ => World.ownsRow_nil _ _ _ _, fun i _ j _ _ => .inl rfl, by omega⟩, b1, bB, by omega⟩
  case assign =>
    rintro l' pre x W K hJ hK2
    have HJ := Lib.hid hJ
    have HK2 := Lib.hid hK2
    clear hJ hK2 hst b0 b1 b2 hK
    obtain ⟨⟨a, to, ac⟩, his, hal⟩ := x
    unfold encL encE
    gi_wp2
    obtain ⟨vs, h1, h2, h3, h4⟩ := HJ.out
    have h3z := h3.size
    refine HK2.out _ _ (KeepsFrom.of_grownBy (World.grownBy_alloc W _ none) (fun j e => by cases e)) (fun q hq => Below.heap_alloc _ _ _ (by omega)) ((TJ.own w rows.length w.heap.size _ hzz).alloc _ HJ.out)
      ⟨W.heap.size, h4, World.alloc_heap_new _ _, ⟨vs, h1.tab.of_block (Below.heap_alloc _ _ _ h1.tab.lt), fun j hj e => by have := ((h1.own j hj).lt _ e).2; omega⟩, rfl⟩
  case body =>
    rintro l' pre x a' W hl hrec ⟨vs, hor, hbx, hbel, hsz⟩ ⟨e, he, hc, ⟨f, hf, hj⟩, rfl⟩ hlen
    obtain ⟨⟨a, to, ac⟩, his, hal⟩ := x
    obtain ⟨i, rfl, hin⟩ : ∃ i : Nat, to = (i : Int) ∧ i < rows.length := by
      unfold nodeB at his
      have h : 0 ≤ to ∧ to < (rows.length : Int) := of_decide_eq_true his
      exact ⟨to.toNat, by omega, by omega⟩
    have g1 := (cell_of_box_l hbx).1
    have g2 : W.cell? ⟨e, 0, none⟩ = some (.int .i64 (i : Int)) := cell_of_row _ _ 0 _ _ _ hc
    have g3 : W.cell? ⟨e, 1, none⟩ = some (.int .i64 ac) := cell_of_row _ _ 1 _ _ _ hc
    simp only [List.setIfInBounds_toArray, List.set_cons_zero, List.set_cons_succ]
    refine wpIn_block ?_
    refine wpIn_region_held (fun w' => w'.cell? ⟨w.heap.size + 1, 0, none⟩ = some (.slice (some ⟨w.heap.size, 0, none⟩) rows.length rows.length) ∧ w'.cell? ⟨e, 0, none⟩ = some (.int .i64 (i : Int)) ∧ w'.cell? ⟨e, 1, none⟩ = some (.int .i64 ac)) (by kernel_rfl) (by kernel_rfl) (fun _ _ h => h) ?_
    have hS0 : W.drew.cell? ⟨w.heap.size + 1, 0, none⟩ = some (.slice (some ⟨w.heap.size, 0, none⟩) rows.length rows.length) ∧ W.drew.cell? ⟨e, 0, none⟩ = some (.int .i64 (i : Int)) ∧ W.drew.cell? ⟨e, 1, none⟩ = some (.int .i64 ac) := ⟨g1, g2, g3⟩
    refine wpAnyH_take (i := 0) (v := .slice (some ⟨w.heap.size, 0, none⟩) rows.length rows.length) rfl (by kernel_rfl) (by kernel_rfl) (by kernel_rfl) (fun _ _ _ h => h) (Or.inl ⟨by rfl, fun w2 hS => ?_⟩) hS0 ?_
    · obtain ⟨s1, s2, s3⟩ := hS
      go_simp
    simp only [Act.put, List.setIfInBounds_toArray, List.set_cons_zero, List.set_cons_succ]
    refine wpAnyH_take (i := 1) (v := .pointer (some ⟨e, 0, none⟩)) rfl (by kernel_rfl) (by kernel_rfl) (by kernel_rfl) (fun _ _ _ h => h) (Or.inl ⟨by rfl, fun w2 hS => ?_⟩) hS0 ?_
    · obtain ⟨s1, s2, s3⟩ := hS
      go_simp
    simp only [Act.put, List.setIfInBounds_toArray, List.set_cons_zero, List.set_cons_succ]
    refine wpAnyH_take (i := 2) (v := .int .i64 (i : Int)) rfl (by kernel_rfl) (by kernel_rfl) (by kernel_rfl) (fun _ _ _ h => h) (Or.inl ⟨by rfl, fun w2 hS => ?_⟩) hS0 ?_
    · obtain ⟨s1, s2, s3⟩ := hS
      go_simp
    simp only [Act.put, List.setIfInBounds_toArray, List.set_cons_zero, List.set_cons_succ]
    refine wpAnyH_take (i := 3) (v := .slice (some ⟨w.heap.size, 0, none⟩) rows.length rows.length) rfl (by kernel_rfl) (by kernel_rfl) (by kernel_rfl) (fun _ _ _ h => h) (Or.inl ⟨by rfl, fun w2 hS => ?_⟩) hS0 ?_
    · obtain ⟨s1, s2, s3⟩ := hS
      go_simp
    simp only [Act.put, List.setIfInBounds_toArray, List.set_cons_zero, List.set_cons_succ]
    refine wpAnyH_take (i := 4) (v := .pointer (some ⟨e, 0, none⟩)) rfl (by kernel_rfl) (by kernel_rfl) (by kernel_rfl) (fun _ _ _ h => h) (Or.inl ⟨by rfl, fun w2 hS => ?_⟩) hS0 ?_
    · obtain ⟨s1, s2, s3⟩ := hS
      go_simp
    simp only [Act.put, List.setIfInBounds_toArray, List.set_cons_zero, List.set_cons_succ]
    refine wpAnyH_take (i := 5) (v := .int .i64 (i : Int)) rfl (by kernel_rfl) (by kernel_rfl) (by kernel_rfl) (fun _ _ _ h => h) (Or.inl ⟨by rfl, fun w2 hS => ?_⟩) hS0 ?_
    · obtain ⟨s1, s2, s3⟩ := hS
      go_simp
    simp only [Act.put, List.setIfInBounds_toArray, List.set_cons_zero, List.set_cons_succ]
    refine wpAnyH_take (i := 6) (v := .pointer (some ⟨w.heap.size, i, none⟩)) rfl (by kernel_rfl) (by kernel_rfl) (by kernel_rfl) (fun _ _ _ h => h) (Or.inl ⟨by rfl, fun w2 hS => ?_⟩) hS0 ?_
    · obtain ⟨s1, s2, s3⟩ := hS
      go_simp
    simp only [Act.put, List.setIfInBounds_toArray, List.set_cons_zero, List.set_cons_succ]
    refine wpAnyH_take (i := 8) (v := .int .i64 (a : Int)) rfl (by kernel_rfl) (by kernel_rfl) (by kernel_rfl) (fun _ _ _ h => h) (Or.inl ⟨by rfl, fun w2 hS => ?_⟩) hS0 ?_
    · obtain ⟨s1, s2, s3⟩ := hS
      go_simp
    simp only [Act.put, List.setIfInBounds_toArray, List.set_cons_zero, List.set_cons_succ]
    refine wpAnyH_take (i := 9) (v := .pointer (some ⟨e, 1, none⟩)) rfl (by kernel_rfl) (by kernel_rfl) (by kernel_rfl) (fun _ _ _ h => h) (Or.inl ⟨by rfl, fun w2 hS => ?_⟩) hS0 ?_
    · obtain ⟨s1, s2, s3⟩ := hS
      go_simp
    simp only [Act.put, List.setIfInBounds_toArray, List.set_cons_zero, List.set_cons_succ]
    refine wpAnyH_take (i := 10) (v := .int .i64 ac) rfl (by kernel_rfl) (by kernel_rfl) (by kernel_rfl) (fun _ _ _ h => h) (Or.inl ⟨by rfl, fun w2 hS => ?_⟩) hS0 ?_
    · obtain ⟨s1, s2, s3⟩ := hS
      go_simp
    simp only [Act.put, List.setIfInBounds_toArray, List.set_cons_zero, List.set_cons_succ]
    refine wpAnyH_take (i := 11) (v := .agg #[.int .i64 (a : Int), .int .i64 ac]) rfl (by kernel_rfl) (by kernel_rfl) (by kernel_rfl) (fun _ _ _ h => h) (Or.inl ⟨by rfl, fun w2 hS => ?_⟩) hS0 ?_
    · obtain ⟨s1, s2, s3⟩ := hS
      go_simp
    simp only [Act.put, List.setIfInBounds_toArray, List.set_cons_zero, List.set_cons_succ]
    have g4 : W.drew.cell? ⟨w.heap.size, i, none⟩ = some (vs i) := hor.tab.cell hin
    have hfv : f i = vs i := by
      have h := hf.cell hin
      rw [show W.cell? ⟨w.heap.size, i, none⟩ = some (vs i) from hor.tab.cell hin] at h
      exact (Option.some.inj h).symm
    obtain ⟨A', l2, c2, hv⟩ : ∃ A' l2 c2, vs i = .slice A' l2 c2 := by
      rcases (hor.own i hin).2 with ⟨h, _⟩ | ⟨g, cap, cur, h, _⟩
      · exact ⟨_, _, _, h⟩
      · exact ⟨_, _, _, h⟩
    rw [hv] at g4
    have hWz : ∀ q v, W.cell? q = some v → (W.drew.alloc (.cells #[.int .i64 (a : Int), .int .i64 ac] 46)).cell? q = some v := fun q v h => ((Below.refl W.drew.heap.size W.drew).alloc (Nat.le_refl _) _).cell (p := q) (lt_of_cell' h) |>.trans h
    have hS1 : (W.drew.alloc (.cells #[.int .i64 (a : Int), .int .i64 ac] 46)).cell? ⟨w.heap.size + 1, 0, none⟩ = some (.slice (some ⟨w.heap.size, 0, none⟩) rows.length rows.length) ∧ (W.drew.alloc (.cells #[.int .i64 (a : Int), .int .i64 ac] 46)).cell? ⟨e, 0, none⟩ = some (.int .i64 (i : Int)) ∧ (W.drew.alloc (.cells #[.int .i64 (a : Int), .int .i64 ac] 46)).cell? ⟨e, 1, none⟩ = some (.int .i64 ac) := ⟨hWz _ _ g1, hWz _ _ g2, hWz _ _ g3⟩
    have g5 := hWz _ _ g4
    have g5b : (W.alloc (.cells #[.int .i64 (a : Int), .int .i64 ac] 46)).cell? ⟨w.heap.size, i, none⟩ = some (.slice A' l2 c2) := g5
    have hne2 : some e ≠ (vs i).ownBlock := fun e1 => hj i hin (by rw [hfv]; exact e1.symm)
    obtain ⟨g', cap', w', hr, hS2, g6, g7, hS3, k1, k2, k3⟩ := turned_round w W rows.length i e a W0.heap.size ac _ pre his hal hin vs hor hbx hbel hsz he hne2 hlen HT.out hS1
    rw [hv] at hr g6
    have hr := Lib.hid hr
    have HF := Lib.hid (And.intro k1 (And.intro k2 k3))
    clear k1 k2 k3 hor hbx hbel hne2 hfv hf hj
    refine wpAnyH_ready (rs := [7, 12]) (by kernel_rfl) (by simp) ?_
    refine AllReadyH.cons (o := _) rfl (fun K hK => ?_) (AllReadyH.cons (o := _) rfl (fun K hK => ?_) AllReadyH.nil)
    · go_simp
      refine hK.out _ _ hS0 (fun _ => ?_)
      clear hK K
      try simp only [Act.put, List.setIfInBounds_toArray, List.set_cons_zero, List.set_cons_succ]
      refine wpAnyH_ready (rs := [12]) (by kernel_rfl) (by simp) ?_
      refine AllReadyH.cons (o := _) rfl (fun K hK => ?_) AllReadyH.nil
      go_simp
      refine hK.out _ _ hS1 (fun _ => ?_)
      clear hK K
      refine wpAnyH_ready (rs := [13]) (by kernel_rfl) (by simp) ?_
      refine AllReadyH.cons (o := _) rfl (fun K hK => ?_) AllReadyH.nil
      refine step_append_row (by rfl) (.tmp 20) (.tmp 25) (by rfl) (by rfl) (by rfl) (by rfl) hr.out ?_
      refine hK.out _ _ hS2 (fun _ => ?_)
      clear hK K
      try simp only [Act.put, List.setIfInBounds_toArray, List.set_cons_zero, List.set_cons_succ]
      refine wpAnyH_take (i := 14) (v := .pointer (some ⟨w.heap.size, i, none⟩)) rfl (by kernel_rfl) (by kernel_rfl) (by kernel_rfl) (fun _ _ _ h => h) (Or.inl ⟨by rfl, fun w2 hS => ?_⟩) hS2 ?_
      · obtain ⟨s1, s2, s3⟩ := hS
        go_simp
      try simp only [Act.put, List.setIfInBounds_toArray, List.set_cons_zero, List.set_cons_succ]
      refine wpAnyH_ready (rs := [15]) (by kernel_rfl) (by simp) ?_
      refine AllReadyH.cons (o := _) rfl (fun K hK => ?_) AllReadyH.nil
      go_simp
      refine hK.out _ _ hS3 (fun _ => ?_)
      clear hK K
      exact wpAnyH_done (by kernel_rfl) HF.out _
    · go_simp
      refine hK.out _ _ hS1 (fun _ => ?_)
      clear hK K
      try simp only [Act.put, List.setIfInBounds_toArray, List.set_cons_zero, List.set_cons_succ]
      refine wpAnyH_ready (rs := [7]) (by kernel_rfl) (by simp) ?_
      refine AllReadyH.cons (o := _) rfl (fun K hK => ?_) AllReadyH.nil
      go_simp
      refine hK.out _ _ hS1 (fun _ => ?_)
      clear hK K
      refine wpAnyH_ready (rs := [13]) (by kernel_rfl) (by simp) ?_
      refine AllReadyH.cons (o := _) rfl (fun K hK => ?_) AllReadyH.nil
      refine step_append_row (by rfl) (.tmp 20) (.tmp 25) (by rfl) (by rfl) (by rfl) (by rfl) hr.out ?_
      refine hK.out _ _ hS2 (fun _ => ?_)
      clear hK K
      try simp only [Act.put, List.setIfInBounds_toArray, List.set_cons_zero, List.set_cons_succ]
      refine wpAnyH_take (i := 14) (v := .pointer (some ⟨w.heap.size, i, none⟩)) rfl (by kernel_rfl) (by kernel_rfl) (by kernel_rfl) (fun _ _ _ h => h) (Or.inl ⟨by rfl, fun w2 hS => ?_⟩) hS2 ?_
      · obtain ⟨s1, s2, s3⟩ := hS
        go_simp
      try simp only [Act.put, List.setIfInBounds_toArray, List.set_cons_zero, List.set_cons_succ]
      refine wpAnyH_ready (rs := [15]) (by kernel_rfl) (by simp) ?_
      refine AllReadyH.cons (o := _) rfl (fun K hK => ?_) AllReadyH.nil
      go_simp
      refine hK.out _ _ hS3 (fun _ => ?_)
      clear hK K
      exact wpAnyH_done (by kernel_rfl) HF.out _
  case done =>
    rintro D ys W hD hS hJ hDW
    obtain ⟨vs, h1, h2, h3, h4⟩ := hJ
    have g1 := (cell_of_box_l h2).1
    have H1 := Lib.hid h1
    have H3 := Lib.hid h3
    have HS := Lib.hid hS
    have HD := Lib.hid hDW
    clear h1 h2 h3 hS hDW hst b0 b1 b2 hK
    gi_wp2
    rw [HS.out] at H1
    refine leaves_marks (fun V => (∃ vs, OR V (w.heap.size + 3) w.heap.size rows.length vs (turnL (leadTo rows rows.length))) ∧ Below w.heap.size w V) (fun V _ => results_tmp rfl _ _ V) (fun V h => ⟨rfl, h.1, h.2⟩) [D] W (List.nodup_cons.2 ⟨by simp, List.nodup_nil⟩) (fun E hE => ?_) (fun E hE V h hj => ?_) ⟨⟨vs, H1.out⟩, H3.out⟩
    · obtain rfl : E = D := by simpa using hE
      exact HD.out
    · obtain rfl : E = D := by simpa using hE
      obtain ⟨⟨vs2, k1⟩, k2⟩ := hj
      refine ⟨⟨vs2, k1.kept (grownBy_putObj' V E (.deferred none)) (fun r e => by cases e; exact ⟨_, h, rfl⟩)⟩, ?_⟩
      exact k2.trans (belowK_b (w := w) (Nat.le_refl _) _ E _ (.deferred none) (by omega) h rfl rfl)
  case stop => exact fun _ _ _ _ _ _ h => h.elim
end Go.Proofs.Ytnfiohekdbjgoaa
