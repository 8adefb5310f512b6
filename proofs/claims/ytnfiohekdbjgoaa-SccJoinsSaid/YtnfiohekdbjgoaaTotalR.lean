/- Contracts of package graph: Total, one round of its first loop. -/
import Derived.Test.YtnfiohekdbjgoaaTurned
namespace Go.Proofs.Ytnfiohekdbjgoaa
open Go.ChangeShapes Go.WideShapes Go.ChangeAt Go.RowKit Go.Shelf

attribute [local go_sem] Oper.semAt_some

/-- The edges that lead out of node i, as they were. -/
def keepL (pre : List (Nat × (Int × Int))) (i : Nat) : List (Int × Int) := (pre.filter fun x => x.1 == i).map fun x => x.2
theorem keepL_snoc (pre : List (Nat × (Int × Int))) (i : Nat) (to ac : Int) (j : Nat) : keepL (pre ++ [(i, (to, ac))]) j = if j = i then keepL pre i ++ [(to, ac)] else keepL pre j := by
  unfold keepL
  rw [List.filter_append, List.map_append]
  by_cases e : j = i
  · subst e; simp
  · have : (i == j) = false := by simpa using fun h => e h.symm
    simp [e, this]
theorem keepL_le (pre : List (Nat × (Int × Int))) (i : Nat) : (keepL pre i).length ≤ pre.length := by
  unfold keepL
  rw [List.length_map]
  exact List.length_filter_le _ _

/-- What stands behind each edge. -/
def KJ (w : World) (n : Nat) (s : Nat) (pre : List (Led n)) (W : World) : Prop :=
  ∃ vs, OR W (s + 3) s n vs (keepL (pre.map Led.e)) ∧ W.heap[s + 1]? = some (.cells #[.slice (some ⟨s, 0, none⟩) n n] 55 (0, 0)) ∧ Below w.heap.size w W ∧ s + 3 ≤ W.heap.size

/-- What stands behind the assignment of an edge: it lies in a block that is no row's. -/
def KX (n s : Nat) (base : Array Value) (x : Led n) (a : Act) (W : World) : Prop :=
  ∃ e, s + 3 ≤ e ∧ W.heap[e]? = some (.cells #[.int .i64 x.e.2.1, .int .i64 x.e.2.2] 46 (0, 0)) ∧ (∃ f, W.rowIs s 39 n f ∧ ∀ j, j < n → (f j).ownBlock ≠ some e) ∧
    a = { tmps := (((base.setIfInBounds 15 (.int .i64 x.e.1)).setIfInBounds 16 (.agg #[.int .i64 x.e.2.1, .int .i64 x.e.2.2])).setIfInBounds 5 (.int .i64 x.e.1)).setIfInBounds 6 (.pointer (some ⟨e, 0, none⟩)), defers := [] }

theorem KX.own (n s : Nat) (base : Array Value) (B : Nat) (x : Led n) (a : Act) : OwnFrom B (fun (_ : Unit) W => KX n s base x a W) := by
  rintro _ W W' row ⟨e, he, hc, ⟨f, hf, hj⟩, ha⟩ hg hr
  refine ⟨e, he, (hg.block e (Array.getElem?_eq_some_iff.1 hc).1 (fun e1 => ?_)).trans hc, ⟨f, hf.of_block (hg.block s hf.lt (fun e1 => ?_)), hj⟩, ha⟩
  · obtain ⟨_, o, ho, hcc⟩ := hr e e1.symm
    rw [hc] at ho; cases ho; cases hcc
  · obtain ⟨_, o, ho, hcc⟩ := hr s e1.symm
    obtain ⟨cs, h2, _⟩ := hf
    rw [h2] at ho; cases ho; cases hcc

theorem KJ.own (w : World) (n s B : Nat) (hB : w.heap.size ≤ B) : OwnFrom B (KJ w n s) := by
  rintro pre W W' row ⟨vs, h1, h2, h3, h4⟩ hg hr
  have hr' : ∀ r, row = some r → ∃ o : Obj, W.heap[r]? = some o ∧ o.isCells = false := fun r e => (hr r e).2
  refine ⟨vs, h1.kept hg hr', (hg.block _ (Array.getElem?_eq_some_iff.1 h2).1 (fun e1 => ?_)).trans h2, ⟨hg.os.trans h3.os, hg.tape.trans h3.tape, hg.output.trans h3.output, Nat.le_trans h3.size hg.size, fun k hk => (hg.block k (Nat.lt_of_lt_of_le hk h3.size) (fun e1 => ?_)).trans (h3.block k hk)⟩, Nat.le_trans h4 hg.size⟩
  · obtain ⟨o, ho, hcc⟩ := hr' _ e1.symm
    rw [h2] at ho; cases ho; cases hcc
  · have := (hr k e1.symm).1
    omega

set_option maxHeartbeats 2000000 in
/-- One round of Total: what the append and the store leave. -/
theorem total_round (w W : World) (n i e B : Nat) (to ac : Int) (N : Nat) (pre : List (Led n)) (his : nodeB n to = true) (hin : i < n) (vs : Nat → Value) (hor : OR W (w.heap.size + 3) w.heap.size n vs (keepL (pre.map Led.e)))
    (hbx : W.heap[w.heap.size + 1]? = some (.cells #[.slice (some ⟨w.heap.size, 0, none⟩) n n] 55 (0, 0))) (hbel : Below w.heap.size w W) (hsz : w.heap.size + 3 ≤ W.heap.size) (he : w.heap.size + 3 ≤ e) (hne2 : some e ≠ (vs i).ownBlock) (hlen : pre.length < N) (hTT : N * 16 ≤ 140737488355328)
    (hS1 : (W.drew.alloc (.cells #[.int .i64 to, .int .i64 ac] 46)).cell? ⟨w.heap.size + 1, 0, none⟩ = some (.slice (some ⟨w.heap.size, 0, none⟩) n n) ∧ (W.drew.alloc (.cells #[.int .i64 to, .int .i64 ac] 46)).cell? ⟨e, 0, none⟩ = some (.int .i64 to) ∧ (W.drew.alloc (.cells #[.int .i64 to, .int .i64 ac] 46)).cell? ⟨e, 1, none⟩ = some (.int .i64 ac)) :
    ∃ g' cap' w', (Builtin.append_ #[39, 39] 39 #[vs i, .slice (some ⟨W.heap.size, 0, none⟩) 1 1]).run Try.prog (W.drew.alloc (.cells #[.int .i64 to, .int .i64 ac] 46)) = .ok (.slice (some ⟨g', 0, none⟩) ((keepL (pre.map Led.e) i).length + 1) cap') w' ∧
      (w'.cell? ⟨w.heap.size + 1, 0, none⟩ = some (.slice (some ⟨w.heap.size, 0, none⟩) n n) ∧ w'.cell? ⟨e, 0, none⟩ = some (.int .i64 to) ∧ w'.cell? ⟨e, 1, none⟩ = some (.int .i64 ac)) ∧ w'.cell? ⟨w.heap.size, i, none⟩ = some (vs i) ∧ w'.frozen? ⟨w.heap.size, i, none⟩ = false ∧
      ((w'.setCell ⟨w.heap.size, i, none⟩ (.slice (some ⟨g', 0, none⟩) ((keepL (pre.map Led.e) i).length + 1) cap')).cell? ⟨w.heap.size + 1, 0, none⟩ = some (.slice (some ⟨w.heap.size, 0, none⟩) n n) ∧ (w'.setCell ⟨w.heap.size, i, none⟩ (.slice (some ⟨g', 0, none⟩) ((keepL (pre.map Led.e) i).length + 1) cap')).cell? ⟨e, 0, none⟩ = some (.int .i64 to) ∧ (w'.setCell ⟨w.heap.size, i, none⟩ (.slice (some ⟨g', 0, none⟩) ((keepL (pre.map Led.e) i).length + 1) cap')).cell? ⟨e, 1, none⟩ = some (.int .i64 ac)) ∧
      KeepsFrom B W (w'.setCell ⟨w.heap.size, i, none⟩ (.slice (some ⟨g', 0, none⟩) ((keepL (pre.map Led.e) i).length + 1) cap')) ∧ KS (fun q => q < w.heap.size ∨ q = w.heap.size + 1 + 1) W (w'.setCell ⟨w.heap.size, i, none⟩ (.slice (some ⟨g', 0, none⟩) ((keepL (pre.map Led.e) i).length + 1) cap')) ∧ KJ w n w.heap.size (pre ++ [⟨(i, (to, ac)), his, hin⟩]) (w'.setCell ⟨w.heap.size, i, none⟩ (.slice (some ⟨g', 0, none⟩) ((keepL (pre.map Led.e) i).length + 1) cap')) := by
  have hord : OR W.drew (w.heap.size + 3) w.heap.size n vs (keepL (pre.map Led.e)) := ⟨hor.tab, hor.own, hor.apart, hor.lt⟩
  have hor1 : OR (W.drew.alloc (.cells #[.int .i64 to, .int .i64 ac] 46)) (w.heap.size + 3) w.heap.size n vs (keepL (pre.map Led.e)) := hord.kept (World.grownBy_alloc W.drew _ none) (fun r e => by cases e)
  obtain ⟨i1, hi1, hy0, hy1, hy2⟩ := info_parts (show (Try.prog.info? 46).map (fun i => (i.zero, i.size, i.bytes)) = some (some (.agg #[.int .i64 0, .int .i64 0]), 2, 16) by kernel_rfl)
  have hle := keepL_le (pre.map Led.e) i
  rw [List.length_map] at hle
  obtain ⟨v', w', hr, hown', hg, _, hb⟩ := run_append_own_at (P := Try.prog) (W.drew.alloc (.cells #[.int .i64 to, .int .i64 ac] 46)) (w.heap.size + 3) 39 39 46 i1 (.agg #[.int .i64 0, .int .i64 0]) 2 16 (by kernel_rfl) hi1 hy0 hy1 hy2 rfl (by decide) (vs i) (keepL (pre.map Led.e) i).length _ (hor1.own i hin) ⟨W.heap.size, 0, none⟩ 1 1 [.int .i64 to, .int .i64 ac] rfl (fun j u hju => by
    rw [add_plain]
    rcases j with _ | _ | j
    · obtain rfl := Option.some.inj hju
      exact cell_of_row _ _ 0 _ _ _ (World.alloc_heap_new W.drew _)
    · obtain rfl := Option.some.inj hju
      exact cell_of_row _ _ 1 _ _ _ (World.alloc_heap_new W.drew _)
    · simp at hju) (fun u hu => by
    simp only [List.mem_cons, List.not_mem_nil, or_false] at hu
    rcases hu with rfl | rfl <;> simp [Value.oneCell']) (by unfold maxLen; omega) (by omega) (by rw [World.size_alloc]; show w.heap.size + 3 ≤ W.heap.size + 1; omega)
  obtain ⟨g', cap', rfl⟩ := ownsRow_succ hown'
  have hlt := (hor.own i hin).lt
  have hne0 : some w.heap.size ≠ (vs i).ownBlock := fun e1 => by have := (hlt _ e1.symm).1; omega
  have hne1 : some (w.heap.size + 1) ≠ (vs i).ownBlock := fun e1 => by have := (hlt _ e1.symm).1; omega
  have hS2 : w'.cell? ⟨w.heap.size + 1, 0, none⟩ = some (.slice (some ⟨w.heap.size, 0, none⟩) n n) ∧ w'.cell? ⟨e, 0, none⟩ = some (.int .i64 to) ∧ w'.cell? ⟨e, 1, none⟩ = some (.int .i64 ac) := ⟨hg.cell hS1.1 hne1, hg.cell hS1.2.1 hne2, hg.cell hS1.2.2 hne2⟩
  have htab := hor1.tab.of_block (hg.block _ hor1.tab.lt hne0)
  have g6 := htab.cell hin
  have g7 := htab.frozen i
  have hS3 : (w'.setCell ⟨w.heap.size, i, none⟩ (.slice (some ⟨g', 0, none⟩) ((keepL (pre.map Led.e) i).length + 1) cap')).cell? ⟨w.heap.size + 1, 0, none⟩ = some (.slice (some ⟨w.heap.size, 0, none⟩) n n) ∧ (w'.setCell ⟨w.heap.size, i, none⟩ (.slice (some ⟨g', 0, none⟩) ((keepL (pre.map Led.e) i).length + 1) cap')).cell? ⟨e, 0, none⟩ = some (.int .i64 to) ∧ (w'.setCell ⟨w.heap.size, i, none⟩ (.slice (some ⟨g', 0, none⟩) ((keepL (pre.map Led.e) i).length + 1) cap')).cell? ⟨e, 1, none⟩ = some (.int .i64 ac) :=
    ⟨(World.cell?_of_block (Below.heap_setCell w' _ _ _ (by show w.heap.size + 1 ≠ w.heap.size; omega))).trans hS2.1, (World.cell?_of_block (Below.heap_setCell w' _ _ _ (by show e ≠ w.heap.size; omega))).trans hS2.2.1, (World.cell?_of_block (Below.heap_setCell w' _ _ _ (by show e ≠ w.heap.size; omega))).trans hS2.2.2⟩
  have hz1 := hg.size
  rw [World.size_alloc] at hz1
  have hz2 : W.drew.heap.size = W.heap.size := rfl
  have hstep := hor1.step hin (x := (to, ac)) hown' hg hb
  have hblk : ∀ k, k < W.heap.size → some k ≠ (vs i).ownBlock → k ≠ w.heap.size → (w'.setCell ⟨w.heap.size, i, none⟩ (.slice (some ⟨g', 0, none⟩) ((keepL (pre.map Led.e) i).length + 1) cap')).heap[k]? = W.heap[k]? := fun k hk h1 h2 =>
    ((Below.heap_setCell w' _ _ k h2).trans (hg.block k (by rw [World.size_alloc]; omega) h1)).trans (Below.heap_alloc _ _ _ hk)
  have hbz := hbel.size
  refine ⟨g', cap', w', hr, hS2, g6, g7, hS3, ⟨by rw [show (w'.setCell ⟨w.heap.size, i, none⟩ (.slice (some ⟨g', 0, none⟩) ((keepL (pre.map Led.e) i).length + 1) cap')).heap.size = w'.heap.size by simp]; omega, fun k o hk hko hoc => (hblk k (Array.getElem?_eq_some_iff.1 hko).1 (fun e1 => ?_) (fun e1 => ?_)).trans hko⟩, fun q hq => hblk q (by omega) (fun e1 => by have := (hlt _ e1.symm).1; omega) (by omega), ⟨fun j => if j = i then (.slice (some ⟨g', 0, none⟩) ((keepL (pre.map Led.e) i).length + 1) cap') else vs j, ?_, (hblk _ (by omega) hne1 (by omega)).trans hbx, ⟨?_, ?_, ?_, ?_, fun k hk => ?_⟩, ?_⟩⟩
  · rcases (hor.own i hin).2 with ⟨h, _⟩ | ⟨g, cap, cur, h, _, hgg, _⟩
    · rw [h] at e1; cases e1
    · rw [h] at e1; cases e1
      rw [hgg] at hko; cases hko; cases hoc
  · obtain ⟨cs, h2, _⟩ := hor.tab
    rw [e1, h2] at hko; cases hko; cases hoc
  · rw [show keepL (List.map Led.e (pre ++ [⟨(i, (to, ac)), his, hin⟩])) = fun j => if j = i then keepL (pre.map Led.e) i ++ [(to, ac)] else keepL (pre.map Led.e) j by
      funext j
      rw [List.map_append]
      exact keepL_snoc _ i to ac j]
    exact hstep
  · exact hg.os.trans hbel.os
  · exact hg.tape.trans hbel.tape
  · exact hg.output.trans hbel.output
  · simp; omega
  · exact (hblk k (by omega) (fun e1 => by have := (hlt _ e1.symm).1; omega) (by omega)).trans (hbel.block k hk)
  · simp; omega
end Go.Proofs.Ytnfiohekdbjgoaa
