/- A row of ints of the call's own that is taken from in front. -/
import Derived.Test.YtnfiohekdbjgoaaSeaPure
import Derived.ArgAppend
namespace Go.Proofs.Ytnfiohekdbjgoaa
open Go.ChangeShapes Go.WideShapes Go.ChangeAt Go.RowKit

def QW (base : Nat) (w : World) (v : Value) (l : List Int) : Prop :=
  (v = .slice none 0 0 ∧ l = []) ∨ ∃ g off cap, v = .slice (some ⟨g, off, none⟩) l.length cap ∧ base ≤ g ∧ g < w.heap.size ∧ l.length ≤ cap ∧ cap ≤ maxLen ∧ (∀ i, i < cap → (w.cell? ⟨g, off + i, none⟩).isSome = true) ∧ (∀ i, w.frozen? ⟨g, i, none⟩ = false) ∧
    ∀ i, i < l.length → w.cell? ⟨g, off + i, none⟩ = some (.int .i64 (l.getD i 0))
theorem QW.nil (base : Nat) (w : World) : QW base w (.slice none 0 0) [] := .inl ⟨rfl, rfl⟩
theorem QW.of_own {base : Nat} {w : World} {v : Value} {l : List Int} (h : OI base w v l) : QW base w v l := by
  obtain ⟨h1, h2⟩ := id h
  rcases h2 with ⟨rfl, h0⟩ | ⟨g, cap, cur, rfl, hb, hg, hn, hm, hs, ht⟩
  · exact .inl ⟨rfl, List.eq_nil_of_length_eq_zero h0⟩
  · refine .inr ⟨g, 0, cap, rfl, hb, (Array.getElem?_eq_some_iff.1 hg).1, hn, hm, fun i hi => ?_, fun i => ?_, fun i hi => ?_⟩
    · have : i < cur.size := by omega
      simp [World.cell?, hg, this]
    · simp [World.frozen?, hg]
    · have := World.ownsRow.cellAt h i (by simpa using hi)
      rw [Nat.zero_add, this]
      simp [List.getD, hi]
theorem QW.form {base : Nat} {w : World} {v : Value} {l : List Int} (h : QW base w v l) : ∃ A c, v = .slice A l.length c ∧ IA w A l ∧ l.length ≤ c ∧ c ≤ maxLen := by
  rcases h with ⟨rfl, rfl⟩ | ⟨g, off, cap, rfl, _, hg, h1, h2, _, _, h3⟩
  · exact ⟨none, 0, rfl, IA.nil _ _, Nat.le_refl _, Nat.zero_le _⟩
  · exact ⟨_, cap, rfl, fun _ => ⟨g, off, rfl, hg, h3⟩, h1, h2⟩
/-- It stays where its block does. -/
theorem QW.kept {base : Nat} {w w' : World} {v : Value} {l : List Int} (h : QW base w v l) (hs : w.heap.size ≤ w'.heap.size) (hk : ∀ q, base ≤ q → q < w.heap.size → w'.heap[q]? = w.heap[q]?) : QW base w' v l := by
  rcases h with h | ⟨g, off, cap, e, hb, hg, h1, h2, h3, h4, h5⟩
  · exact .inl h
  · have hc : ∀ i, w'.cell? ⟨g, i, none⟩ = w.cell? ⟨g, i, none⟩ := fun i => World.cell?_of_block (w := w) (a := ⟨g, i, none⟩) (hk g hb hg)
    have hf : ∀ i, w'.frozen? ⟨g, i, none⟩ = w.frozen? ⟨g, i, none⟩ := fun i => World.frozen?_of_block (w := w) (a := ⟨g, i, none⟩) (hk g hb hg)
    exact .inr ⟨g, off, cap, e, hb, Nat.lt_of_lt_of_le hg hs, h1, h2, fun i hi => by rw [hc]; exact h3 i hi, fun i => by rw [hf]; exact h4 i, fun i hi => by rw [hc]; exact h5 i hi⟩
theorem QW.turn {T : Nat → Prop} {base : Nat} {w w' : World} {v : Value} {l : List Int} (h : QW base w v l) (k : Turn T w w') (hT : ∀ q, T q → q < base) : QW base w' v l :=
  h.kept k.size (fun q hq hlt => k.block q hlt (fun ht => by have := hT q ht; omega))
theorem QW.below {base : Nat} {w w' : World} {v : Value} {l : List Int} (h : QW base w v l) (k : Below w.heap.size w w') : QW base w' v l := h.kept k.size (fun q _ hlt => k.block q hlt)
theorem QW.tail {base : Nat} {w : World} {A : Option Addr} {m c : Nat} {l : List Int} (h : QW base w (.slice A m c) l) (hm : 0 < l.length) : QW base w (.slice (if c = 1 then A else A.map (·.add 1)) (m - 1) (c - 1)) (l.drop 1) := by
  rcases h with ⟨e, rfl⟩ | ⟨g, off, cap, e, hb, hg, h1, h2, h3, h4, h5⟩
  · simp at hm
  · injection e with e1 e2 e3
    subst e1 e2 e3
    have hd : ∀ i, (l.drop 1).getD i 0 = l.getD (1 + i) 0 := fun i => by simp [List.getD, Nat.add_comm]
    by_cases hc : c = 1
    · subst hc
      refine .inr ⟨g, off, 0, by simp, hb, hg, by simp; omega, Nat.zero_le _, fun i hi => by omega, h4, fun i hi => ?_⟩
      simp at hi; omega
    · refine .inr ⟨g, off + 1, c - 1, by rw [if_neg hc]; simp [Addr.add], hb, hg, by simp; omega, by omega, fun i hi => ?_, h4, fun i hi => ?_⟩
      · rw [Nat.add_assoc]; exact h3 (1 + i) (by omega)
      · rw [Nat.add_assoc, hd]
        simp at hi
        exact h5 (1 + i) (by omega)
set_option maxRecDepth 20000 in
theorem tail1_run (B : Option Addr) (k d : Nat) (h : 1 ≤ k) (W : World) : (Instr.sliceAt 22 (.slice B k d) (some (.int .i64 1)) none none).run Try.prog W = .ok (.slice (if d = 1 then B else B.map (·.add 1)) (k - 1) (d - 1)) W := by
  have hsz : (sizeOf (Try.prog.elem 22)).run Try.prog W = .ok 1 W := by simp [go_sem]
  rw [run_sliceAt_slice (P := Try.prog) W 22 _ _ _ _ Try.underlying22, run_slice_l (P := Try.prog) W 22 B k d Try.underlying22 .i64 1 (by omega) (by omega), hsz]
  simp [Result.andThen, sliced]

set_option maxRecDepth 20000 in
/-- append of one int onto such a row. -/
theorem append_qw {w : World} {ops : Array Oper} {rest : List Oper} {o : Oper} {a : Act} {Q : Exit → Act → World → Prop} (hgd : o.guard = none) (s x : Operand)
    (ho : o.op = .call { callee := .builtin .append, args := #[s, x], argTypes := #[22, 22] })
    (base : Nat) (v : Value) (l : List Int) (hs : a.eval s = v) (hown : QW base w v l) (z : Int)
    (hx : a.eval x = .slice (some ⟨w.heap.size, 0, none⟩) 1 1)
    (hlen : l.length + 1 ≤ 10000000) (hbase : base ≤ w.heap.size)
    (h : ∀ v' w', QW base w' v' (l ++ [z]) → Below base w w' → wpList Try.prog ops Q rest (a.put o.dst v') w') :
    wpList Try.prog ops Q (o :: rest) a (w.alloc (.cells #[.int .i64 z] 3)) := by
  obtain ⟨i0, hi, hz0, hz1, hz2⟩ := info_parts Try.info3
  have hB1 : Below w.heap.size w (w.alloc (.cells #[.int .i64 z] 3)) := (Below.refl _ _).alloc (Nat.le_refl _) _
  rcases hown with ⟨rfl, rfl⟩ | ⟨g, off, cap, rfl, hb, hg, h1, h2, h3, h4, h5⟩
  · refine wpList_append_own_at _ hgd s x 22 ho base 3 i0 (.int .i64 0) 1 8 Try.underlying22 hi hz0 hz1 hz2 rfl (by decide) _ 0 [] hs (World.ownsRow_nil _ _ _ _) ⟨w.heap.size, 0, none⟩ 1 1 [.int .i64 z] hx rfl (cell_one_new _ _ _) (by simp [Value.oneCell']) (by unfold maxLen; omega) (by omega) (by simp; omega) ?_
    intro v' w' hown' hgrow _ hb'
    exact h v' w' (QW.of_own (l := [z]) hown') (Below.grown ((Below.refl _ _).alloc hbase _) hgrow (by simp; omega) (fun k hk => by cases hk))
  · have hc1 : ∀ i, (w.alloc (.cells #[.int .i64 z] 3)).cell? ⟨g, i, none⟩ = w.cell? ⟨g, i, none⟩ := fun i => hB1.cell (p := ⟨g, i, none⟩) hg
    have hf1 : ∀ i, (w.alloc (.cells #[.int .i64 z] 3)).frozen? ⟨g, i, none⟩ = w.frozen? ⟨g, i, none⟩ := fun i => hB1.frozen (p := ⟨g, i, none⟩) hg
    refine wpList_plain hgd fun K hK => ?_
    by_cases hroom : l.length + 1 ≤ cap
    · have hr := run_append_room_cells (P := Try.prog) (w.alloc (.cells #[.int .i64 z] 3)) 22 o.type 3 i0 Try.underlying22 hi g off l.length cap ⟨w.heap.size, 0, none⟩ 1 1 [.int .i64 z] (by rw [hz1]; rfl) (cell_one_new _ _ _) (by simp [Value.oneCell']) hroom
        (fun j hj => by
          have : j = 0 := by simpa using hj
          subst this
          rw [hz1, hc1]
          exact (by rw [Nat.mul_one, Nat.add_zero]; exact h3 _ (by omega))) (fun j hj => by rw [hf1]; exact h4 _)
      rw [hz1, Nat.mul_one] at hr
      unfold Oper.wp execOp
      simp only [ho, resolve, invoke, builtin, Sem.run_bind, Sem.run_pure, Result.andThen_ok, List.map_toArray, List.map_cons, List.map_nil, hs, hx, hr]
      have hset : (w.alloc (.cells #[.int .i64 z] 3)).setCells g (off + l.length) [.int .i64 z] = (w.alloc (.cells #[.int .i64 z] 3)).setCell ⟨g, off + l.length, none⟩ (.int .i64 z) := rfl
      rw [hset]
      have hgz : g < (w.alloc (.cells #[.int .i64 z] 3)).heap.size := by simp; omega
      have hsame : ((w.alloc (.cells #[.int .i64 z] 3)).setCell ⟨g, off + l.length, none⟩ (.int .i64 z)).cell? ⟨g, off + l.length, none⟩ = some (.int .i64 z) := by
        obtain ⟨u, hu⟩ := Option.isSome_iff_exists.1 (h3 l.length (by omega))
        exact World.cell?_setCell_same _ _ _ ((hc1 _).trans hu)
      have hoth : ∀ i, i ≠ off + l.length → ((w.alloc (.cells #[.int .i64 z] 3)).setCell ⟨g, off + l.length, none⟩ (.int .i64 z)).cell? ⟨g, i, none⟩ = w.cell? ⟨g, i, none⟩ := fun i hi => by
        rw [World.cell?_setCell_other _ _ _ _ (by intro h1; injection h1 with _ h2; omega), hc1]
      refine hK _ _ (h _ _ (.inr ⟨g, off, cap, by simp, hb, by simp; omega, by simp; omega, h2, fun i hi => ?_, fun i => ?_, fun i hi => ?_⟩) (((Below.refl _ _).alloc hbase _).setCell hb _))
      · by_cases e : off + i = off + l.length
        · rw [e, hsame]; rfl
        · rw [hoth _ e]; exact h3 i hi
      · rw [World.frozen?_setCell, hf1]; exact h4 i
      · by_cases e : i = l.length
        · subst e; rw [hsame]; simp [List.getD]
        · have hil : i < l.length := by simp at hi; omega
          rw [hoth _ (by omega), h5 i hil]
          simp only [List.getD, List.getElem?_append_left hil]
    · obtain ⟨v', w', hr, hown', hgrow⟩ := run_append_arg_grows (P := Try.prog) (w.alloc (.cells #[.int .i64 z] 3)) 22 o.type 3 i0 (.int .i64 0) 1 8 Try.underlying22 hi hz0 hz1 hz2 rfl (by decide) ⟨g, off, none⟩ l.length cap (l.map (Value.int .i64)) (by simp) (fun j u hu => by
          rw [List.getElem?_map] at hu
          cases e : l[j]? with
          | none => rw [e] at hu; cases hu
          | some y =>
            rw [e] at hu
            injection hu with hu
            subst hu
            have hj : j < l.length := (List.getElem?_eq_some_iff.1 e).1
            rw [add_plain, hc1, h5 j hj]
            simp [List.getD, e]) ⟨w.heap.size, 0, none⟩ 1 1 [.int .i64 z] rfl (cell_one_new _ _ _) (by omega) (by unfold maxLen; omega) (by omega)
      unfold Oper.wp execOp
      simp only [ho, resolve, invoke, builtin, Sem.run_bind, Sem.run_pure, Result.andThen_ok, List.map_toArray, List.map_cons, List.map_nil, hs, hx, hr]
      have hsz : base ≤ (w.alloc (.cells #[.int .i64 z] 3)).heap.size := by simp; omega
      have hO : OI base w' v' (l ++ [z]) := by
        have h6 := hown'
        unfold OI
        rw [List.length_append, List.map_append]
        obtain ⟨a1, a2⟩ := h6
        refine ⟨a1, ?_⟩
        rcases a2 with a2 | ⟨g2, cp, cur, b1, b2, b3⟩
        · exact .inl a2
        · exact .inr ⟨g2, cp, cur, b1, by omega, b3⟩
      exact hK _ _ (h _ _ (QW.of_own hO) (Below.grown ((Below.refl _ _).alloc hbase _) hgrow hsz (fun k hk => by cases hk)))
end Go.Proofs.Ytnfiohekdbjgoaa
