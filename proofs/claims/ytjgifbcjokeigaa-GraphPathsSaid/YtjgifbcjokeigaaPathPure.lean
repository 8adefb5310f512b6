/- Ways led back from a search's end: plain facts. -/
import Derived.Test.YtjgifbcjokeigaaPath1
import Derived.Test.YtjgifbcjokeigaaTurnG
namespace Go.Proofs.Ytjgifbcjokeigaa

/-- Who is ahead of each one was met before. -/
def AhOk (tr : List (Nat × Int)) : Prop := ∀ i, i < tr.length → (tr.getD i (0, 0)).2 = -1 ∨ ∃ j, j < i ∧ ((tr.getD j (0, 0)).1 : Int) = (tr.getD i (0, 0)).2
/-- That node, or -1, may stand ahead of what comes. -/
def AhTo (tr : List (Nat × Int)) (a : Int) : Prop := a = -1 ∨ ∃ j, j < tr.length ∧ ((tr.getD j (0, 0)).1 : Int) = a
theorem getD_app {tr : List (Nat × Int)} {x : Nat × Int} {i : Nat} (h : i < tr.length) : (tr ++ [x]).getD i (0, 0) = tr.getD i (0, 0) := by
  simp only [List.getD, List.getElem?_append_left h]
theorem getD_app_last (tr : List (Nat × Int)) (x : Nat × Int) : (tr ++ [x]).getD tr.length (0, 0) = x := by simp [List.getD]
theorem AhTo.mono {tr : List (Nat × Int)} {a : Int} (h : AhTo tr a) (x : Nat × Int) : AhTo (tr ++ [x]) a := by
  rcases h with h | ⟨j, hj, e⟩
  · exact .inl h
  · exact .inr ⟨j, by simp; omega, by rw [getD_app hj]; exact e⟩
theorem AhOk.snoc {tr : List (Nat × Int)} (h : AhOk tr) (k : Nat) {a : Int} (ha : AhTo tr a) : AhOk (tr ++ [(k, a)]) := fun i hi => by
  by_cases e : i < tr.length
  · rw [getD_app e]
    rcases h i e with h1 | ⟨j, hj, h1⟩
    · exact .inl h1
    · exact .inr ⟨j, hj, by rw [getD_app (by omega)]; exact h1⟩
  · have e2 : i = tr.length := by simp at hi; omega
    subst e2
    rw [getD_app_last]
    rcases ha with ha | ⟨j, hj, h1⟩
    · exact .inl ha
    · exact .inr ⟨j, hj, by rw [getD_app hj]; exact h1⟩
theorem rowF_ah {n : Nat} {go : List (Nat × Int) → Bool} {a : Int} : ∀ {l : List (Int × Int)} {tr : List (Nat × Int)}, AhOk tr → AhTo tr a → AhOk (rowF n go a l tr).1
  | [], _, h, _ => h
  | e :: l, tr, h, ha => by
    rw [rowF]
    split
    · split
      · exact rowF_ah (h.snoc _ ha) (ha.mono _)
      · exact h.snoc _ ha
    · exact rowF_ah h ha
theorem seaF_ah {n : Nat} {rows : List (List (Int × Int))} {go : List (Nat × Int) → Bool} : ∀ {f : Nat} {row : List (Int × Int)} {a : Int} {tr : List (Nat × Int)} {h : Nat}, AhOk tr → AhTo tr a → AhOk (seaF n rows go f row a tr h)
  | 0, _, _, _, _, h, _ => h
  | f + 1, row, a, tr, k, h, ha => by
    rw [seaF]
    have h2 : AhOk (rowF n go a row tr).1 := rowF_ah h ha
    split
    · split
      · rename_i hk
        exact seaF_ah h2 (.inr ⟨k, hk, rfl⟩)
      · exact h2
    · exact h2

/-- The node ahead of the i-th one met. -/
theorem ahead_at {n : Nat} {tr : List (Nat × Int)} (h : TrOk n tr) {i : Nat} (hi : i < tr.length) : aheadZ tr (tr.getD i (0, 0)).1 = (tr.getD i (0, 0)).2 := by
  have hg : tr.getD i (0, 0) = tr[i] := by simp [List.getD, hi]
  rw [hg]
  unfold aheadZ
  have hf : tr.reverse.find? (fun x => x.1 == tr[i].1) = some tr[i] := by
    rw [List.find?_eq_some_iff_append]
    refine ⟨by simp, (tr.drop (i + 1)).reverse, (tr.take i).reverse, ?_, fun x hx => ?_⟩
    · conv => lhs; rw [← List.take_append_drop i tr, List.drop_eq_getElem_cons hi]
      simp
    · have hnd := h.nd
      rw [← List.take_append_drop (i + 1) tr, List.map_append, List.nodup_append] at hnd
      have hx2 : x.1 ∈ (tr.drop (i + 1)).map Prod.fst := List.mem_map.2 ⟨x, List.mem_reverse.1 hx, rfl⟩
      have hi2 : tr[i].1 ∈ (tr.take (i + 1)).map Prod.fst := List.mem_map.2 ⟨tr[i], List.mem_take_iff_getElem.2 ⟨i, by omega, rfl⟩, rfl⟩
      have := hnd.2.2 _ hi2 _ hx2
      simp
      exact fun e => this e.symm
  rw [hf]
/-- The way back from a node. -/
def wayF (tr : List (Nat × Int)) : Nat → Int → List Int
  | 0, _ => []
  | f + 1, z => if z = -1 then [] else z :: wayF tr f (aheadZ tr z.toNat)
/-- That node is met among the first f, or it is none. -/
def In (tr : List (Nat × Int)) (f : Nat) (z : Int) : Prop := z = -1 ∨ ∃ i, i < f ∧ i < tr.length ∧ z = ((tr.getD i (0, 0)).1 : Int)
theorem In.next {n : Nat} {tr : List (Nat × Int)} (h : TrOk n tr) (ha : AhOk tr) {f : Nat} {z : Int} (hz : In tr (f + 1) z) (hn : z ≠ -1) : In tr f (aheadZ tr z.toNat) ∧ ∃ k : Nat, z = (k : Int) ∧ k < n := by
  rcases hz with hz | ⟨i, hi, hl, rfl⟩
  · exact absurd hz hn
  · refine ⟨?_, _, rfl, h.at_ hl⟩
    rw [Int.toNat_natCast, ahead_at h hl]
    rcases ha i hl with h1 | ⟨j, hj, h1⟩
    · exact .inl h1
    · exact .inr ⟨j, by omega, by omega, h1.symm⟩
theorem wayF_end (tr : List (Nat × Int)) (f : Nat) : wayF tr f (-1) = [] := by cases f <;> rfl
theorem wayF_next {tr : List (Nat × Int)} {f : Nat} {z : Int} (h : z ≠ -1) : wayF tr (f + 1) z = z :: wayF tr f (aheadZ tr z.toNat) := by
  rw [wayF, if_neg h]
theorem In.pos {tr : List (Nat × Int)} {z : Int} (h : In tr 0 z) : z = -1 := by
  rcases h with h | ⟨i, hi, _⟩
  · exact h
  · omega
theorem endZ_in (goal : List Bool) (tr : List (Nat × Int)) : In tr tr.length (endZ goal tr) := by
  have h : ∀ l : List (Nat × Int), endZ goal l = -1 ∨ ∃ x ∈ l, endZ goal l = (x.1 : Int) := by
    intro l
    induction l with
    | nil => exact .inl rfl
    | cons x l ih =>
      rw [endZ]
      split
      · split
        · exact .inr ⟨x, by simp, rfl⟩
        · rename_i h2
          rcases ih with h3 | ⟨y, hy, e⟩
          · exact absurd h3 h2
          · exact .inr ⟨y, by simp [hy], e⟩
      · rcases ih with h3 | ⟨y, hy, e⟩
        · exact .inl h3
        · exact .inr ⟨y, by simp [hy], e⟩
  rcases h tr with h1 | ⟨x, hx, e⟩
  · exact .inl h1
  · obtain ⟨i, hi, rfl⟩ := List.getElem_of_mem hx
    exact .inr ⟨i, hi, hi, by rw [e]; simp [List.getD, hi]⟩

/-- How many edges lead to nodes. -/
theorem rowL_len (n a : Nat) (row : List (Int × Int)) : (rowL n a row).length ≤ row.length := by
  unfold rowL
  rw [List.length_map]
  exact List.length_filter_le _ _
theorem leadTo_len {rows : List (List (Int × Int))} {M : Nat} (h : ∀ i, (rows.getD i []).length ≤ M) : ∀ k, (leadTo rows k).length ≤ k * M
  | 0 => by simp [leadTo]
  | k + 1 => by
    have h1 := leadTo_len h k
    have h2 := rowL_len rows.length k (rows.getD k [])
    have h3 := h k
    rw [leadTo, List.length_append, Nat.add_mul]
    omega
theorem turnR_row (rows : List (List (Int × Int))) (i : Nat) : ((turnR rows).getD i []).length ≤ (leadTo rows rows.length).length := by
  by_cases h : i < rows.length
  · have e : (turnR rows).getD i [] = turnL (leadTo rows rows.length) i := by simp [turnR, List.getD, h]
    rw [e]; exact turnL_le _ _
  · have e : (turnR rows).getD i [] = [] := by simp [turnR, List.getD, List.getElem?_eq_none (show ((List.range rows.length).map (turnL (leadTo rows rows.length))).length ≤ i by simp; omega)]
    rw [e]; simp
/-- What Path's search meets, and the way it tells. -/
def pathTr (rows : List (List (Int × Int))) (from_ : List Int) (goal : List Bool) : List (Nat × Int) := seaF rows.length (turnR (turnR rows)) (goP goal) (rows.length + 1) (edgesF (from_.mergeSort fun x y => decide (x ≤ y))) (-1) [] 0
def pathL (rows : List (List (Int × Int))) (from_ : List Int) (goal : List Bool) : List Int := (wayF (pathTr rows from_ goal) (pathTr rows from_ goal).length (endZ goal (pathTr rows from_ goal))).reverse
theorem pathTr_ok (rows : List (List (Int × Int))) (from_ : List Int) (goal : List Bool) : TrOk rows.length (pathTr rows from_ goal) := seaF_ok (TrOk.nil _)
theorem pathTr_ah (rows : List (List (Int × Int))) (from_ : List Int) (goal : List Bool) : AhOk (pathTr rows from_ goal) := seaF_ah (fun i hi => by simp at hi) (.inl rfl)
end Go.Proofs.Ytjgifbcjokeigaa
