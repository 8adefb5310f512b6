/- Rows of tokens of the call's own: one more. -/
import Derived.Test.YtcielemahmpppaaDoorLexFirst
import Derived.Test.YtcielemahmpppaaDoorIntRows
import Derived.RangeFuncRecord
namespace Go.Proofs.YtcielemahmpppaaDoor.lx
open Go.ChangeShapes Go.WideShapes Go.ChangeAt Go.RowKit Go.Deep

def cellT (t : Tok) : List Value := [.int .i64 (t.kind : Nat), .int .i64 t.num, .int .i64 (t.pos : Nat), .string t.text]
def flatT (l : List Tok) : List Value := l.flatMap cellT
theorem flatT_snoc (l : List Tok) (t : Tok) : flatT (l ++ [t]) = flatT l ++ cellT t := by unfold flatT; simp
/-- A row of tokens of the call's own. -/
def OT (base : Nat) (w : World) (v : Value) (l : List Tok) : Prop := w.ownsRow base 39 4 v l.length (flatT l)
theorem OT.nil (base : Nat) (w : World) : OT base w (.slice none 0 0) [] := World.ownsRow_nil _ _ _ _
set_option maxRecDepth 20000 in
/-- append of one token onto a row of the call's own. -/
theorem append_tok {w : World} {ops : Array Oper} {rest : List Oper} {o : Oper} {a : Act} {Q : Exit → Act → World → Prop} (hgd : o.guard = none) (s x : Operand)
    (ho : o.op = .call { callee := .builtin .append, args := #[s, x], argTypes := #[23, 23] })
    (base : Nat) (v : Value) (l : List Tok) (hs : a.eval s = v) (hown : OT base w v l) (k p : Nat) (n : Int) (t : ByteArray)
    (hx : a.eval x = .slice (some ⟨w.heap.size, 0, none⟩) 1 1) (hlen : l.length + 1 ≤ 1000000) (hbase : base ≤ w.heap.size)
    (h : ∀ v' w', OT base w' v' (l ++ [⟨k, n, p, t⟩]) → Below base w w' → (w.alloc (.cells #[.int .i64 (k : Nat), .int .i64 n, .int .i64 (p : Nat), .string t] 39)).grownBy w' v.ownBlock → wpList Tryd.prog ops Q rest (a.put o.dst v') w') :
    wpList Tryd.prog ops Q (o :: rest) a (w.alloc (.cells #[.int .i64 (k : Nat), .int .i64 n, .int .i64 (p : Nat), .string t] 39)) := by
  obtain ⟨i0, hi, hz0, hz1, hz2⟩ := info_parts (show (Tryd.prog.info? 39).map (fun i => (i.zero, i.size, i.bytes)) = some (some (.agg #[.int .i64 0, .int .i64 0, .int .i64 0, .string ⟨#[]⟩]), 4, 40) by kernel_rfl)
  refine wpList_append_own_at _ hgd s x 23 ho base 39 i0 (.agg #[.int .i64 0, .int .i64 0, .int .i64 0, .string ⟨#[]⟩]) 4 40 Tryd.underlying23 hi hz0 hz1 hz2 rfl (by decide) v l.length _ hs (World.ownsRow.alloc hown _) ⟨w.heap.size, 0, none⟩ 1 1 (cellT ⟨k, n, p, t⟩) hx rfl (fun j u hju => by
    rw [add_plain]
    rcases j with _ | _ | _ | _ | j
    · obtain rfl := Option.some.inj hju
      exact cell_of_row _ _ 0 _ _ _ (World.alloc_heap_new w _)
    · obtain rfl := Option.some.inj hju
      exact cell_of_row _ _ 1 _ _ _ (World.alloc_heap_new w _)
    · obtain rfl := Option.some.inj hju
      exact cell_of_row _ _ 2 _ _ _ (World.alloc_heap_new w _)
    · obtain rfl := Option.some.inj hju
      exact cell_of_row _ _ 3 _ _ _ (World.alloc_heap_new w _)
    · simp [cellT] at hju) (fun u hu => by
    simp only [cellT, List.mem_cons, List.not_mem_nil, or_false] at hu
    rcases hu with rfl | rfl | rfl | rfl <;> simp [Value.oneCell']) (by unfold maxLen; omega) (by omega) (by simp; omega) ?_
  intro v' w' hown' hgrow _ hb
  refine h v' w' ?_ (Below.grown ((Below.refl _ _).alloc hbase _) hgrow (by simp; omega) (fun q hq => (World.ownsRow.lt hown q hq).1)) hgrow
  show w'.ownsRow base 39 4 v' (l ++ [(⟨k, n, p, t⟩ : Tok)]).length (flatT (l ++ [⟨k, n, p, t⟩]))
  rw [List.length_append, flatT_snoc]
  exact hown'
end Go.Proofs.YtcielemahmpppaaDoor.lx
