/- The document's Turn and Total: one append to a row of a table of the call's own. -/
import Derived.Test.YtnfiohekdbjgoaaTurned
import Derived.Test.YtnfiohekdbjgoaaTurnG
namespace Go.Proofs.Ytnfiohekdbjgoaa
open Go.ChangeShapes Go.WideShapes Go.ChangeAt Go.RowKit Go.Shelf

/-- What an append to row i of a table leaves, and the store behind it. -/
theorem table_append {W : World} {base s n i : Nat} {vs : Nat → Value} {l : Nat → List (Int × Int)} (hor : OR W base s n vs l) (hin : i < n) (hbase : base ≤ W.heap.size) (x : Int × Int) (hlen : ((l i).length + 1) * 16 ≤ 140737488355328) :
    ∃ g' cap' w', (Builtin.append_ #[39, 39] 39 #[vs i, .slice (some ⟨W.heap.size, 0, none⟩) 1 1]).run Try.prog (W.alloc (.cells #[.int .i64 x.1, .int .i64 x.2] 46)) = .ok (.slice (some ⟨g', 0, none⟩) ((l i).length + 1) cap') w' ∧
      w'.cell? ⟨s, i, none⟩ = some (vs i) ∧ w'.frozen? ⟨s, i, none⟩ = false ∧ (W.alloc (.cells #[.int .i64 x.1, .int .i64 x.2] 46)).grownBy w' (vs i).ownBlock ∧
      OR (w'.setCell ⟨s, i, none⟩ (.slice (some ⟨g', 0, none⟩) ((l i).length + 1) cap')) base s n (fun j => if j = i then .slice (some ⟨g', 0, none⟩) ((l i).length + 1) cap' else vs j) (fun j => if j = i then l i ++ [x] else l j) := by
  have hor1 : OR (W.alloc (.cells #[.int .i64 x.1, .int .i64 x.2] 46)) base s n vs l := hor.kept (World.grownBy_alloc W _ none) (fun r e => by cases e)
  obtain ⟨i1, hi1, hy0, hy1, hy2⟩ := info_parts (show (Try.prog.info? 46).map (fun i => (i.zero, i.size, i.bytes)) = some (some (.agg #[.int .i64 0, .int .i64 0]), 2, 16) by kernel_rfl)
  obtain ⟨v', w', hr, hown', hg, _, hb⟩ := run_append_own_at (P := Try.prog) (W.alloc (.cells #[.int .i64 x.1, .int .i64 x.2] 46)) base 39 39 46 i1 (.agg #[.int .i64 0, .int .i64 0]) 2 16 (by kernel_rfl) hi1 hy0 hy1 hy2 rfl (by decide) (vs i) (l i).length _ (hor1.own i hin) ⟨W.heap.size, 0, none⟩ 1 1 [.int .i64 x.1, .int .i64 x.2] rfl (fun j u hju => by
    rw [add_plain]
    rcases j with _ | _ | j
    · obtain rfl := Option.some.inj hju
      exact cell_of_row _ _ 0 _ _ _ (World.alloc_heap_new W _)
    · obtain rfl := Option.some.inj hju
      exact cell_of_row _ _ 1 _ _ _ (World.alloc_heap_new W _)
    · simp at hju) (fun u hu => by
    simp only [List.mem_cons, List.not_mem_nil, or_false] at hu
    rcases hu with rfl | rfl <;> simp [Value.oneCell']) (by unfold maxLen; omega) (by omega) (by rw [World.size_alloc]; omega)
  obtain ⟨g', cap', rfl⟩ := ownsRow_succ hown'
  have hne0 : some s ≠ (vs i).ownBlock := fun e1 => by have := ((hor.own i hin).lt _ e1.symm).1; have := hor.lt; omega
  have htab := hor1.tab.of_block (hg.block _ hor1.tab.lt hne0)
  exact ⟨g', cap', w', hr, htab.cell hin, htab.frozen i, hg, hor1.step hin hown' hg hb⟩
end Go.Proofs.Ytnfiohekdbjgoaa
