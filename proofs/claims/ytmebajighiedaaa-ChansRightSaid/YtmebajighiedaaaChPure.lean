/- Channels' cells, in words of lists; appends and rows of whatever length may lie in memory. -/
import Derived.Test.YtmebajighiedaaaIntRows
namespace Go.Proofs.Ytmebajighiedaaa.ch
open Go.ChangeShapes Go.WideShapes Go.ChangeAt Go.RowKit

/-- As many as may lie in memory. -/
def most8 : Nat := 140737488355328

/-- append of one int onto a row of the call's own. -/
theorem append_one8 {w : World} {ops : Array Oper} {rest : List Oper} {o : Oper} {a : Act} {Q : Exit → Act → World → Prop} (hgd : o.guard = none) (s x : Operand)
    (ho : o.op = .call { callee := .builtin .append, args := #[s, x], argTypes := #[22, 22] })
    (base : Nat) (v : Value) (l : List Int) (hs : a.eval s = v) (hown : OI base w v l) (z : Int)
    (hx : a.eval x = .slice (some ⟨w.heap.size, 0, none⟩) 1 1)
    (hlen : 8 * (l.length + 1) ≤ 140737488355328) (hbase : base ≤ w.heap.size)
    (h : ∀ v' w', OI base w' v' (l ++ [z]) → Below base w w' → wpList Try.prog ops Q rest (a.put o.dst v') w') :
    wpList Try.prog ops Q (o :: rest) a (w.alloc (.cells #[.int .i64 z] 3)) := by
  obtain ⟨i0, hi, hz0, hz1, hz2⟩ := info_parts Try.info3
  refine wpList_append_own_at _ hgd s x 22 ho base 3 i0 (.int .i64 0) 1 8 Try.underlying22 hi hz0 hz1 hz2 rfl (by decide) v l.length _ hs (hown.alloc _) ⟨w.heap.size, 0, none⟩ 1 1 [.int .i64 z] hx rfl (cell_one_new _ _ _) (by simp [Value.oneCell']) (by unfold maxLen; omega) (by omega) (by simp; omega) ?_
  intro v' w' hown' hgrow _ hb
  exact h v' w' (oi_snoc hown') (Below.grown ((Below.refl _ _).alloc hbase _) hgrow (by simp; omega) (fun k hk => (hown.lt k hk).1))

theorem news_map {w : World} {ad : Addr} {l : List Int} (hA : IA w (some ad) l) : ∀ j u, (l.map (Value.int .i64))[j]? = some u → w.cell? (ad.add j) = some u := fun j u hu => by
  rw [List.getElem?_map] at hu
  cases e : l[j]? with
  | none => rw [e] at hu; cases hu
  | some y =>
    rw [e] at hu
    injection hu with hu
    subst hu
    have hj : j < l.length := (List.getElem?_eq_some_iff.1 e).1
    obtain ⟨b, o2, e2, _, hc⟩ := hA (by omega)
    injection e2 with e2
    subst e2
    rw [add_plain, hc j hj]
    simp [List.getD, e]
theorem news_one (l : List Int) : ∀ u ∈ l.map (Value.int .i64), u.oneCell' = true := fun u hu => by
  obtain ⟨y, _, rfl⟩ := List.mem_map.1 hu
  simp [Value.oneCell']
theorem ia_none {w : World} {l : List Int} (h : IA w none l) : l = [] := by
  rcases Nat.eq_zero_or_pos l.length with h0 | h0
  · exact List.eq_nil_of_length_eq_zero h0
  · obtain ⟨b, o, e, _⟩ := h h0
    cases e

set_option maxRecDepth 20000 in
/-- append of what a slice reads as onto a row of the call's own. -/
theorem append_list8 {w : World} {ops : Array Oper} {rest : List Oper} {o : Oper} {a : Act} {Q : Exit → Act → World → Prop} (hgd : o.guard = none) (s x : Operand)
    (ho : o.op = .call { callee := .builtin .append, args := #[s, x], argTypes := #[22, 22] })
    (base : Nat) (v : Value) (l : List Int) (hs : a.eval s = v) (hown : OI base w v l) (A : Option Addr) (m c : Nat) (l2 : List Int) (hm : m = l2.length)
    (hx : a.eval x = .slice A m c) (hA : IA w A l2) (hN : A = none → c = 0) (hlen : 8 * (l.length + l2.length) ≤ 140737488355328) (hbase : base ≤ w.heap.size)
    (h : ∀ v' w', OI base w' v' (l ++ l2) → Below base w w' → wpList Try.prog ops Q rest (a.put o.dst v') w') :
    wpList Try.prog ops Q (o :: rest) a w := by
  obtain ⟨i0, hi, hz0, hz1, hz2⟩ := info_parts Try.info3
  subst hm
  cases A with
  | none =>
    have h0 : l2 = [] := ia_none hA
    subst h0
    rw [hN rfl] at hx
    refine wpList_append_own_none hgd s x 22 ho base 3 i0 1 Try.underlying22 hi v l.length _ hs hown hx (h v w ?_ (Below.refl _ _))
    rw [List.append_nil]
    exact hown
  | some ad =>
    refine wpList_append_own_at _ hgd s x 22 ho base 3 i0 (.int .i64 0) 1 8 Try.underlying22 hi hz0 hz1 hz2 rfl (by decide) v l.length _ hs hown ad l2.length c (l2.map (Value.int .i64)) hx (by simp) (news_map hA) (news_one l2) (by unfold maxLen; omega) (by omega) hbase ?_
    intro v' w' hown' hgrow _ _
    refine h v' w' ?_ (Below.grown (Below.refl _ _) hgrow hbase (fun k hk => (hown.lt k hk).1))
    unfold OI
    rw [List.length_append, List.map_append]
    exact hown'

theorem rowp_made8 {w w' : World} {L : List Int} {b m : Nat} {t : TypeId} {f : Nat → Value} (hm : m = L.length) (hl : 8 * m ≤ 140737488355328) (hr : w'.rowIs b t m f) (hf : ∀ i, i < m → f i = .int .i64 (L.getD i 0)) (hb : Below w.heap.size w w') :
    RowP w L (.returned (.slice (some ⟨b, 0, none⟩) m m)) w' := by
  subst hm
  refine ⟨_, _, rfl, ⟨fun _ => ⟨b, 0, rfl, hr.lt, fun i hi => ?_⟩, Nat.le_refl _, by unfold maxLen; omega, fun h => by cases h⟩, hb⟩
  have := hr.cell (i := i) hi
  rw [Nat.zero_add, this, hf i hi]

/-- How many values the cells tell. -/
def kN (l : List Int) : Nat := (l.getD 0 0).toNat
/-- Are they cells? -/
def isC (l : List Int) : Bool := decide (0 < l.length ∧ 0 ≤ l.getD 0 0 ∧ l.getD 0 0 < l.length ∧ ((l.drop (kN l + 1)).any fun v => decide (v ≠ 0)) = false)
theorem isC_iff {l : List Int} : isC l = true ↔ (0 < l.length ∧ 0 ≤ l.getD 0 0 ∧ l.getD 0 0 < l.length ∧ ((l.drop (kN l + 1)).any fun v => decide (v ≠ 0)) = false) := by simp only [isC, decide_eq_true_iff]
theorem isC_no {l : List Int} (h : ¬ (0 < l.length ∧ 0 ≤ l.getD 0 0 ∧ l.getD 0 0 < l.length ∧ ((l.drop (kN l + 1)).any fun v => decide (v ≠ 0)) = false)) : isC l = false := by
  simp only [isC, decide_eq_false h]
theorem isC_k {l : List Int} (h : isC l = true) : (l.getD 0 0 : Int) = (kN l : Int) ∧ kN l + 1 ≤ l.length := by
  have := isC_iff.1 h
  unfold kN
  omega
/-- The values. -/
def itemsF (l : List Int) : List Int := if isC l = true then (l.drop 1).take (kN l) else []
theorem items_no {l : List Int} (h : isC l = false) : itemsF l = [] := by unfold itemsF; rw [if_neg (by simp [h])]
theorem items_yes {l : List Int} (h : isC l = true) : itemsF l = (l.drop 1).take (kN l) := by unfold itemsF; rw [if_pos h]
theorem items_length {l : List Int} (h : isC l = true) : (itemsF l).length = kN l := by
  rw [items_yes h]
  have := isC_k h
  simp
  omega
theorem items_le (l : List Int) : (itemsF l).length ≤ l.length := by
  by_cases h : isC l = true
  · rw [items_length h]; have := isC_k h; omega
  · rw [items_no (by simpa using h)]; simp
theorem items_getD {l : List Int} (h : isC l = true) {i : Nat} (hi : i < kN l) : (itemsF l).getD i 0 = l.getD (1 + i) 0 := by
  have := isC_k h
  rw [items_yes h]
  simp [List.getD, List.getElem?_take, hi, List.getElem?_drop, Nat.add_comm 1 i]
/-- Cells: as many values, then the values, then zeros; n in all. -/
def cellsF (n : Nat) (xs : List Int) : List Int := (xs.length : Int) :: (xs ++ List.replicate (n - 1 - xs.length) 0)
theorem cells_length {n : Nat} {xs : List Int} (h : xs.length + 1 ≤ n) : (cellsF n xs).length = n := by simp [cellsF]; omega
theorem cells_zero (n : Nat) (xs : List Int) : (cellsF n xs).getD 0 0 = (xs.length : Int) := by simp [cellsF]
theorem cells_value {n : Nat} {xs : List Int} {i : Nat} (hi : i < xs.length) : (cellsF n xs).getD (i + 1) 0 = xs.getD i 0 := by
  simp [cellsF, List.getD, List.getElem?_append_left hi]
theorem cells_rest {n : Nat} {xs : List Int} {i : Nat} (hi : xs.length ≤ i) : (cellsF n xs).getD (i + 1) 0 = 0 := by
  simp only [cellsF, List.getD, List.getElem?_cons_succ]
  rw [List.getElem?_append_right hi, List.getElem?_replicate]
  split <;> rfl
/-- What cells that were made are. -/
theorem cells_kN (n : Nat) (xs : List Int) : kN (cellsF n xs) = xs.length := by unfold kN; rw [cells_zero]; simp
theorem cells_isC {n : Nat} {xs : List Int} (h : xs.length + 1 ≤ n) : isC (cellsF n xs) = true := by
  refine isC_iff.2 ⟨by rw [cells_length h]; omega, by rw [cells_zero]; omega, by rw [cells_zero, cells_length h]; omega, ?_⟩
  rw [cells_kN]
  simp [cellsF]
theorem cells_items {n : Nat} {xs : List Int} (h : xs.length + 1 ≤ n) : itemsF (cellsF n xs) = xs := by
  rw [items_yes (cells_isC h), cells_kN]
  simp [cellsF]
/-- Is there room, and what comes of one more. -/
def roomB (l : List Int) : Bool := decide (isC l = true ∧ kN l + 1 < l.length)
def putL (l : List Int) (v : Int) : List Int := if roomB l = true then cellsF l.length (itemsF l ++ [v]) else []
/-- Is there one to take, which, and what is left. -/
def someB (l : List Int) : Bool := decide (isC l = true ∧ 0 < kN l)
def takeL (l : List Int) : List Int := if someB l = true then cellsF l.length ((itemsF l).drop 1) else []
def takeV (l : List Int) : Int := if someB l = true then (itemsF l).getD 0 0 else 0
theorem put_le (l : List Int) (v : Int) : (putL l v).length ≤ l.length := by
  unfold putL
  split
  · rename_i h
    have h := of_decide_eq_true h
    rw [cells_length (by rw [List.length_append, items_length h.1]; simp; omega)]
    exact Nat.le_refl _
  · simp
theorem take_le (l : List Int) : (takeL l).length ≤ l.length := by
  unfold takeL
  split
  · rename_i h
    have h := of_decide_eq_true h
    have h2 := isC_k h.1
    rw [cells_length (by rw [List.length_drop, items_length h.1]; omega)]
    exact Nat.le_refl _
  · simp
end Go.Proofs.Ytmebajighiedaaa.ch
