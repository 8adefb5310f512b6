/- Tables of rows of numbers of the call's own; the parts, without any program. -/
import Derived.Test.YtnfiohekdbjgoaaSccRefCyc
namespace Go.Proofs.Ytnfiohekdbjgoaa.sc
open Go.ChangeShapes Go.WideShapes Go.ChangeAt Go.RowKit

structure PT (base : Nat) (w : World) (v : Value) (cnt : Nat) (vals : Nat → Value) (ls : Nat → List Int) : Prop where
  own : w.ownsRow base 22 1 v cnt ((List.range cnt).map vals)
  row : ∀ j, j < cnt → OI base w (vals j) (ls j)
  apart : ∀ j k, j < cnt → k < cnt → j ≠ k → ∀ q, (vals j).ownBlock = some q → (vals k).ownBlock ≠ some q
theorem PT.nil (base : Nat) (w : World) : PT base w (.slice none 0 0) 0 (fun _ => .slice none 0 0) (fun _ => []) := ⟨World.ownsRow_nil _ _ _ _, fun j hj => absurd hj (by omega), fun j k hj => absurd hj (by omega)⟩
theorem PT.form {base : Nat} {w : World} {v : Value} {cnt : Nat} {vals : Nat → Value} {ls : Nat → List Int} (h : PT base w v cnt vals ls) : ∃ A cap, v = .slice A cnt cap := by
  rcases h.own.2 with ⟨e, h0⟩ | ⟨g', cap', cur, e, _⟩
  · exact ⟨none, 0, by rw [e, h0]⟩
  · exact ⟨_, _, e⟩
theorem PT.cell {base : Nat} {w : World} {v : Value} {cnt : Nat} {vals : Nat → Value} {ls : Nat → List Int} (h : PT base w v cnt vals ls) (hc : 0 < cnt) : ∃ g cap, v = .slice (some ⟨g, 0, none⟩) cnt cap ∧ cnt ≤ cap ∧ g < w.heap.size ∧ base ≤ g ∧ (∀ j, j < cnt → w.cell? ⟨g, j, none⟩ = some (vals j)) ∧ ∀ j, w.frozen? ⟨g, j, none⟩ = false := by
  have h2 := h.own
  have hat : ∀ j, j < cnt → ∀ g cap, v = .slice (some ⟨g, 0, none⟩) cnt cap → w.cell? ⟨g, j, none⟩ = some (vals j) := fun j hj g cap e => by
    have h3 := h.own
    rw [e] at h3
    have := World.ownsRow.cellAt h3 j (by simpa using hj)
    rw [this, List.getElem?_map, List.getElem?_range hj]
    rfl
  rcases h2.2 with ⟨e, h0⟩ | ⟨g, cap, cur, e, hb, hg, h3, h4, h5, h6⟩
  · omega
  · exact ⟨g, cap, e, h3, (Array.getElem?_eq_some_iff.1 hg).1, hb, fun j hj => hat j hj g cap e, fun j => by simp [World.frozen?, hg]⟩
/-- Rows of numbers and the outer row lie apart: their types differ. -/
theorem own_ints {base base' : Nat} {w : World} {v x : Value} {cnt q : Nat} {xs : List Value} {l : List Int} (h : w.ownsRow base 22 1 v cnt xs) (hr : OI base' w x l) (e : v.ownBlock = some q) : x.ownBlock ≠ some q := fun e2 => by
  rcases h.2 with ⟨e3, _⟩ | ⟨g', cap', cur, e3, _, hg, _⟩
  · rw [e3] at e; cases e
  · rcases hr.2 with ⟨e4, _⟩ | ⟨g2, cap2, cur2, e4, _, hg2, _⟩
    · rw [e4] at e2; cases e2
    · rw [e3] at e
      rw [e4] at e2
      injection e with e
      injection e2 with e2
      have e : g' = q := e
      have e2 : g2 = q := e2
      subst e
      subst e2
      rw [hg] at hg2
      injection hg2 with hg2
      injection hg2 with _ hg2 _
      exact absurd hg2 (by decide)
theorem oi_keep {base : Nat} {w w' : World} {v : Value} {l : List Int} (h : OI base w v l) (hk : ∀ q, v.ownBlock = some q → w'.heap[q]? = w.heap[q]?) : OI base w' v l := by
  refine ⟨h.1, ?_⟩
  rcases h.2 with h1 | ⟨g, cap, cur, e, hb, hg, r⟩
  · exact .inl h1
  · exact .inr ⟨g, cap, cur, e, hb, (hk g (by rw [e]; rfl)).trans hg, r⟩
theorem own_keep {base : Nat} {w w' : World} {t : TypeId} {v : Value} {cnt : Nat} {xs : List Value} (h : w.ownsRow base t 1 v cnt xs) (hk : ∀ q, v.ownBlock = some q → w'.heap[q]? = w.heap[q]?) : w'.ownsRow base t 1 v cnt xs := by
  refine ⟨h.1, ?_⟩
  rcases h.2 with h1 | ⟨g, cap, cur, e, hb, hg, r⟩
  · exact .inl h1
  · exact .inr ⟨g, cap, cur, e, hb, (hk g (by rw [e]; rfl)).trans hg, r⟩
theorem PT.keep {base : Nat} {w w' : World} {v : Value} {cnt : Nat} {vals : Nat → Value} {ls : Nat → List Int} (h : PT base w v cnt vals ls) (hk : ∀ q, base ≤ q → q < w.heap.size → w'.heap[q]? = w.heap[q]?) : PT base w' v cnt vals ls :=
  ⟨own_keep h.own (fun q e => hk q (h.own.lt q e).1 (h.own.lt q e).2), fun j hj => oi_keep (h.row j hj) (fun q e => hk q (World.ownsRow.lt (h.row j hj) q e).1 (World.ownsRow.lt (h.row j hj) q e).2), h.apart⟩
theorem PT.below {base : Nat} {w w' : World} {v : Value} {cnt : Nat} {vals : Nat → Value} {ls : Nat → List Int} (h : PT base w v cnt vals ls) (k : Below w.heap.size w w') : PT base w' v cnt vals ls := h.keep (fun q _ hq => k.block q hq)
theorem PT.mono {base base' : Nat} {w : World} {v : Value} {cnt : Nat} {vals : Nat → Value} {ls : Nat → List Int} (h : PT base w v cnt vals ls) (hb : base' ≤ base) : PT base' w v cnt vals ls :=
  ⟨⟨h.own.1, h.own.2.imp id (fun ⟨g, cap, cur, e, h1, r⟩ => ⟨g, cap, cur, e, Nat.le_trans hb h1, r⟩)⟩, fun j hj => ⟨(h.row j hj).1, (h.row j hj).2.imp id (fun ⟨g, cap, cur, e, h1, r⟩ => ⟨g, cap, cur, e, Nat.le_trans hb h1, r⟩)⟩, h.apart⟩
theorem PT.congr {base : Nat} {w : World} {v : Value} {cnt : Nat} {vals : Nat → Value} {ls ls' : Nat → List Int} (h : PT base w v cnt vals ls) (e : ∀ j, j < cnt → ls j = ls' j) : PT base w v cnt vals ls' := ⟨h.own, fun j hj => by rw [← e j hj]; exact h.row j hj, h.apart⟩
theorem oi_one {base : Nat} {w : World} {v : Value} {l : List Int} (h : OI base w v l) : v.oneCell' = true := by
  rcases h.2 with ⟨e, _⟩ | ⟨g, cap, cur, e, _⟩
  · rw [e]; rfl
  · rw [e]; rfl
set_option maxRecDepth 20000 in
/-- append of a row onto the outer row. -/
theorem append_pt {w : World} {ops : Array Oper} {rest : List Oper} {o : Oper} {a : Act} {Q : Exit → Act → World → Prop} (hgd : o.guard = none) (s x : Operand)
    (ho : o.op = .call { callee := .builtin .append, args := #[s, x], argTypes := #[48, 48] })
    (base : Nat) (v : Value) (cnt : Nat) (vals : Nat → Value) (ls : Nat → List Int) (hs : a.eval s = v) (hown : PT base w v cnt vals ls) (y : Value) (l : List Int) (hy : OI base w y l)
    (hap : ∀ j, j < cnt → ∀ q, (vals j).ownBlock = some q → y.ownBlock ≠ some q) (H : Nat) (hH : w.heap.size = H) (hx : a.eval x = .slice (some ⟨H, 0, none⟩) 1 1) (hlen : cnt + 1 ≤ 1000) (hbase : base ≤ w.heap.size)
    (h : ∀ v' w', PT base w' v' (cnt + 1) (fun j => if j = cnt then y else vals j) (fun j => if j = cnt then l else ls j) → Below base w w' → wpList Try.prog ops Q rest (a.put o.dst v') w') :
    wpList Try.prog ops Q (o :: rest) a (w.alloc (.cells #[y] 22)) := by
  subst hH
  obtain ⟨i0, hi, hz0, hz1, hz2⟩ := info_parts (show (Try.prog.info? 22).map (fun i => (i.zero, i.size, i.bytes)) = some (some (.slice none 0 0), 1, 24) by kernel_rfl)
  refine wpList_append_own_at _ hgd s x 48 ho base 22 i0 (.slice none 0 0) 1 24 Try.underlying48 hi hz0 hz1 hz2 rfl (by decide) v cnt _ hs (hown.own.alloc _) ⟨w.heap.size, 0, none⟩ 1 1 [y] hx rfl (cell_one_new _ _ _) (by simp [oi_one hy]) (by unfold maxLen; omega) (by omega) (by simp; omega) ?_
  intro v' w' hown' hgrow _ _
  have hkeep : ∀ q, q < w.heap.size → v.ownBlock ≠ some q → w'.heap[q]? = w.heap[q]? := fun q hq hne => (hgrow.block q (by simp; omega) (fun e => hne e.symm)).trans (Below.heap_alloc w _ q hq)
  have hk2 : ∀ (z : Value) (lz : List Int), OI base w z lz → OI base w' z lz := fun z lz hz => oi_keep hz (fun q e => hkeep q (World.ownsRow.lt hz q e).2 (fun e2 => own_ints hown.own hz e2 e))
  refine h v' w' ⟨?_, fun j hj => ?_, fun j k hj hk hjk q => ?_⟩ (Below.grown ((Below.refl _ _).alloc hbase _) hgrow (by simp; omega) (fun k hk => (hown.own.lt k hk).1))
  · have e : (List.range (cnt + 1)).map (fun j => if j = cnt then y else vals j) = (List.range cnt).map vals ++ [y] := by
      rw [List.range_succ, List.map_append]
      congr 1
      · refine List.map_congr_left (fun j hj => ?_)
        have := List.mem_range.1 hj
        rw [if_neg (by omega)]
      · simp
    rw [e]
    exact hown'
  · by_cases e : j = cnt
    · simp only [if_pos e]; exact hk2 y l hy
    · simp only [if_neg e]; exact hk2 _ _ (hown.row j (by omega))
  · by_cases e : j = cnt
    · rw [if_pos e, if_neg (by omega)]
      exact fun e1 e2 => hap k (by omega) q e2 e1
    · rw [if_neg e]
      by_cases e2 : k = cnt
      · rw [if_pos e2]; exact hap j (by omega) q
      · rw [if_neg e2]; exact hown.apart j k (by omega) (by omega) hjk q
/-- One row turned, and the outer cell with it. -/
theorem PT.set {base : Nat} {w w2 : World} {g cap cnt i : Nat} {vals : Nat → Value} {ls : Nat → List Int} {y : Value} {l : List Int} (h : PT base w (.slice (some ⟨g, 0, none⟩) cnt cap) cnt vals ls) (hi : i < cnt)
    (hT : Turn (fun q => (vals i).ownBlock = some q) w w2) (hy : OI base w2 y l) (hb : y.ownBlock = (vals i).ownBlock ∨ ∃ q, y.ownBlock = some q ∧ w.heap.size ≤ q) :
    PT base (w2.setCell ⟨g, i, none⟩ y) (.slice (some ⟨g, 0, none⟩) cnt cap) cnt (fun j => if j = i then y else vals j) (fun j => if j = i then l else ls j) := by
  have hg2 : ∀ (z : Value) (lz : List Int), OI base w2 z lz → z.ownBlock ≠ some g → OI base (w2.setCell ⟨g, i, none⟩ y) z lz := fun z lz hz hne => oi_keep hz (fun q e => Below.heap_setCell _ _ _ q (fun e2 => hne (by rw [e, e2])))
  have hgo : (Value.slice (some ⟨g, 0, none⟩) cnt cap).ownBlock = some g := rfl
  have hne : ∀ j, j < cnt → (vals j).ownBlock ≠ some g := fun j hj => own_ints h.own (h.row j hj) hgo
  have hk : ∀ q, q < w.heap.size → (vals i).ownBlock ≠ some q → w2.heap[q]? = w.heap[q]? := fun q hq hn => hT.block q hq hn
  have hgl : g < w.heap.size := (h.own.lt g rfl).2
  have hyg : y.ownBlock ≠ some g := by
    rcases hb with hb | ⟨q, hb, hq⟩
    · rw [hb]; exact hne i hi
    · rw [hb]; intro e; injection e with e; omega
  refine ⟨?_, fun j hj => ?_, fun j k hj hk2 hjk q => ?_⟩
  · rcases h.own.2 with ⟨e, _⟩ | ⟨g', cap', cur, e, hb', hg, h3, h4, h5, h6⟩
    · cases e
    · cases e
      have hgc : w2.heap[g]? = some (.cells cur 22 (0, 0)) := (hk g hgl (hne i hi)).trans hg
      refine ⟨by simp, .inr ⟨g, cap, cur.setIfInBounds i y, rfl, hb', ?_, h3, h4, by simpa using h5, ?_⟩⟩
      · simp [World.setCell, Array.getElem?_modify, hgc]
      · rw [Nat.mul_one] at h6 ⊢
        rw [Array.toList_setIfInBounds, List.take_set, h6]
        apply List.ext_getElem?
        intro j
        rw [List.getElem?_set]
        by_cases hj : j < cnt
        · by_cases e : i = j
          · subst e; simp [hj]
          · rw [if_neg e]
            simp [List.getElem?_range hj, show ¬ j = i from fun e2 => e e2.symm]
        · have h1 : ((List.range cnt).map vals)[j]? = none := by simp; omega
          have h2 : ((List.range cnt).map fun j => if j = i then y else vals j)[j]? = none := by simp; omega
          rw [if_neg (by omega), h1, h2]
  · by_cases e : j = i
    · simp only [if_pos e]; exact hg2 y l hy hyg
    · simp only [if_neg e]
      exact hg2 _ _ (oi_keep (h.row j hj) (fun q e2 => hk q (World.ownsRow.lt (h.row j hj) q e2).2 (h.apart j i hj hi e q e2))) (hne j hj)
  · have hyj : ∀ j, j < cnt → j ≠ i → ∀ q, (vals j).ownBlock = some q → y.ownBlock ≠ some q := fun j hj hji q e => by
      rcases hb with hb | ⟨q2, hb, hq⟩
      · rw [hb]; exact h.apart j i hj hi hji q e
      · rw [hb]; intro e2; injection e2 with e2
        have := (World.ownsRow.lt (h.row j hj) q e).2
        omega
    by_cases e : j = i
    · rw [if_pos e, if_neg (by omega)]
      exact fun e1 e2 => hyj k hk2 (by omega) q e2 e1
    · rw [if_neg e]
      by_cases e2 : k = i
      · rw [if_pos e2]; exact hyj j hj e q
      · rw [if_neg e2]; exact h.apart j k hj hk2 hjk q

/-- The starts among the first k nodes; the nodes of s among the first k. -/
def stF (lst : Nat → Nat) (k : Nat) : List Nat := (List.range k).filter fun i => lst i == i
def memF (lst : Nat → Nat) (k s : Nat) : List Int := ((List.range k).filter fun i => lst i == s).map Int.ofNat
theorem stF_succ (lst : Nat → Nat) (k : Nat) : stF lst (k + 1) = stF lst k ++ if lst k = k then [k] else [] := by
  unfold stF
  rw [List.range_succ, List.filter_append]
  congr 1
  by_cases h : lst k = k <;> simp [h]
theorem memF_succ (lst : Nat → Nat) (k s : Nat) : memF lst (k + 1) s = memF lst k s ++ if lst k = s then [(k : Int)] else [] := by
  unfold memF
  rw [List.range_succ, List.filter_append, List.map_append]
  congr 1
  by_cases h : lst k = s <;> simp [h]
theorem stF_le (lst : Nat → Nat) (k : Nat) : (stF lst k).length ≤ k := by
  unfold stF
  have := List.length_filter_le (fun i => lst i == i) (List.range k)
  simpa using this
theorem stF_lt {lst : Nat → Nat} {k s : Nat} (h : s ∈ stF lst k) : s < k ∧ lst s = s := by
  unfold stF at h
  rw [List.mem_filter] at h
  exact ⟨List.mem_range.1 h.1, by simpa using h.2⟩
/-- A start's place: as many starts as lie below it. -/
theorem stF_at {lst : Nat → Nat} {s : Nat} (hs : lst s = s) : ∀ {k : Nat}, s < k → (stF lst s).length < (stF lst k).length ∧ (stF lst k).getD (stF lst s).length 0 = s := by
  intro k hk
  induction k with
  | zero => omega
  | succ k ih =>
    rw [stF_succ]
    by_cases e : s = k
    · subst e
      rw [if_pos hs]
      simp [List.getD]
    · obtain ⟨h1, h2⟩ := ih (by omega)
      refine ⟨by rw [List.length_append]; omega, ?_⟩
      have h3 : (stF lst k ++ if lst k = k then [k] else []).getD (stF lst s).length 0 = (stF lst k).getD (stF lst s).length 0 := by
        simp only [List.getD]
        rw [List.getElem?_append_left h1]
      rw [h3, h2]
theorem stF_back {lst : Nat → Nat} : ∀ {k j : Nat}, j < (stF lst k).length → (stF lst ((stF lst k).getD j 0)).length = j := by
  intro k
  induction k with
  | zero => intro j hj; simp [stF] at hj
  | succ k ih =>
    intro j hj
    rw [stF_succ] at hj ⊢
    by_cases h : j < (stF lst k).length
    · rw [show (stF lst k ++ if lst k = k then [k] else []).getD j 0 = (stF lst k).getD j 0 by simp only [List.getD]; rw [List.getElem?_append_left h]]
      exact ih h
    · by_cases hk : lst k = k
      · rw [if_pos hk] at hj ⊢
        have hj2 : j = (stF lst k).length := by simp at hj; omega
        subst hj2
        simp [List.getD]
      · rw [if_neg hk] at hj; simp at hj; omega
theorem memF_none {lst : Nat → Nat} (h : ∀ i, lst i ≤ i) {k : Nat} : memF lst k k = [] := by
  unfold memF
  rw [List.map_eq_nil_iff, List.filter_eq_nil_iff]
  intro a ha
  have := List.mem_range.1 ha
  have := h a
  simp; omega
end Go.Proofs.Ytnfiohekdbjgoaa.sc
