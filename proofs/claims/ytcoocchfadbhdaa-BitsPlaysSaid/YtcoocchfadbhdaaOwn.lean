/- Rows of ints of the call's own: what they read as, a store into one, an append to one beside others. -/
import Derived.Test.YtcoocchfadbhdaaBytes
namespace Go.Proofs.Ytcoocchfadbhdaa
open Go.ChangeShapes Go.WideShapes Go.ChangeAt Go.RowKit

/-- The slice v is a row of ints of the call's own, from block base on. -/
def OI (base : Nat) (w : World) (v : Value) (l : List Int) : Prop := w.ownsRow base 3 1 v l.length (l.map (Value.int .i64))
theorem OI.form {base : Nat} {w : World} {v : Value} {l : List Int} (h : OI base w v l) : ∃ A c, v = .slice A l.length c ∧ IA w A l := by
  rcases h.2 with ⟨rfl, h0⟩ | ⟨g, cap, cur, rfl, _⟩
  · exact ⟨none, 0, by rw [h0], fun hn => by omega⟩
  · refine ⟨_, cap, rfl, fun hn => ?_⟩
    obtain ⟨g', cap', e, _, hlt⟩ := World.ownsRow.form h hn
    injection e with e1 e2 e3
    injection e1 with e1
    injection e1 with e1
    subst e1
    refine ⟨g, 0, rfl, hlt, fun i hi => ?_⟩
    have := World.ownsRow.cellAt h i (by omega)
    rw [Nat.zero_add, this]
    simp [List.getD, hi]
theorem oi_snoc {base : Nat} {w : World} {v : Value} {l : List Int} {x : Int} (h : w.ownsRow base 3 1 v (l.length + 1) (l.map (Value.int .i64) ++ [.int .i64 x])) : OI base w v (l ++ [x]) := by
  unfold OI
  rw [List.length_append, List.map_append]
  exact h
theorem Try.info3' : (Try.prog.info? 3).map (fun i => (i.zero, i.size, i.bytes)) = some (some (.int .i64 0), 1, 8) := by kernel_rfl
theorem OI.nil (base : Nat) (w : World) : OI base w (.slice none 0 0) [] := World.ownsRow_nil _ _ _ _

/-- The rows of two slices lie in two blocks. -/
def Apart (v u : Value) : Prop := v.ownBlock = none ∨ v.ownBlock ≠ u.ownBlock
theorem Apart.nil (u : Value) : Apart (.slice none 0 0) u := .inl rfl
theorem Apart.comm {v u : Value} (h : Apart v u) : Apart u v := by
  rcases h with h | h
  · by_cases k : u.ownBlock = none
    · exact .inl k
    · exact .inr (by rw [h]; exact k)
  · exact .inr (Ne.symm h)

theorem Apart.next {v u v2 : Value} {n : Nat} (h : Apart v u) (hu : ∀ k, u.ownBlock = some k → k < n) (hb : v2.ownBlock = v.ownBlock ∨ v2.ownBlock = some n) : Apart v2 u := by
  rcases hb with hb | hb
  · rcases h with h | h
    · exact .inl (hb.trans h)
    · exact .inr (by rw [hb]; exact h)
  · exact .inr (by rw [hb]; intro e; have := hu n e.symm; omega)

/-- append of one int onto a row of the call's own. -/
theorem append_one {w : World} {ops : Array Oper} {rest : List Oper} {o : Oper} {a : Act} {Q : Exit → Act → World → Prop} (hgd : o.guard = none) (s x : Operand)
    (ho : o.op = .call { callee := .builtin .append, args := #[s, x], argTypes := #[37, 37] })
    (base : Nat) (v : Value) (l : List Int) (hs : a.eval s = v) (hown : OI base w v l) (z : Int)
    (hx : a.eval x = .slice (some ⟨w.heap.size, 0, none⟩) 1 1)
    (hlen : l.length + 1 ≤ 17592186044416) (hbase : base ≤ w.heap.size)
    (h : ∀ v' w', OI base w' v' (l ++ [z]) → (w.alloc (.cells #[.int .i64 z] 3)).grownBy w' v.ownBlock → Below base w w' → (v'.ownBlock = v.ownBlock ∨ v'.ownBlock = some (w.heap.size + 1)) → wpList Try.prog ops Q rest (a.put o.dst v') w') :
    wpList Try.prog ops Q (o :: rest) a (w.alloc (.cells #[.int .i64 z] 3)) := by
  obtain ⟨i0, hi, hz0, hz1, hz2⟩ := info_parts Try.info3'
  refine wpList_append_own_at _ hgd s x 37 ho base 3 i0 (.int .i64 0) 1 8 Try.underlying37 hi hz0 hz1 hz2 rfl (by decide) v l.length _ hs (hown.alloc _) ⟨w.heap.size, 0, none⟩ 1 1 [.int .i64 z] hx rfl (cell_one_new _ _ _) (by simp [Value.oneCell']) (by unfold maxLen; omega) (by omega) (by simp; omega) ?_
  intro v' w' hown' hgrow _ hb
  refine h v' w' (oi_snoc hown') hgrow (Below.grown ((Below.refl _ _).alloc hbase _) hgrow (by simp; omega) (fun k hk => (hown.lt k hk).1)) ?_
  rcases hb with hb | hb
  · exact .inl hb
  · exact .inr (by rw [hb]; simp)

/-- A store into a row of bytes. -/
theorem OB.stored {base g c : Nat} {w : World} {l : List Int} (h : OB base w (.slice (some ⟨g, 0, none⟩) l.length c) l) (i : Nat) (x : Int) :
    OB base (w.setCell ⟨g, i, none⟩ (.int .u8 x)) (.slice (some ⟨g, 0, none⟩) l.length c) (l.set i x) := by
  have := (World.ownsRow.stored h i (.int .u8 x)).1
  unfold OB
  rw [List.length_set, List.map_set]
  exact this
theorem OB.block {base : Nat} {w : World} {v : Value} {l : List Int} (h : OB base w v l) (hn : 0 < l.length) : ∃ g c, v = .slice (some ⟨g, 0, none⟩) l.length c ∧ base ≤ g ∧ g < w.heap.size ∧
    (∀ i, i < l.length → w.cell? ⟨g, i, none⟩ = some (.int .u8 (l.getD i 0))) ∧ ∀ i, w.frozen? ⟨g, i, none⟩ = false := by
  obtain ⟨g, c, rfl, hb, hlt⟩ := World.ownsRow.form h hn
  refine ⟨g, c, rfl, hb, hlt, fun i hi => ?_, fun i => World.ownsRow.frozenAt h i⟩
  rw [World.ownsRow.cellAt h i (by omega)]
  simp [List.getD, hi]
end Go.Proofs.Ytcoocchfadbhdaa
