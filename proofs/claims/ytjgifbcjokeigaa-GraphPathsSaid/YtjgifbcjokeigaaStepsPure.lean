/- Ways told by Path are ways: plain facts. -/
import Derived.Test.YtjgifbcjokeigaaPathPure
namespace Go.Proofs.Ytjgifbcjokeigaa

/-- Where what is met comes from: a start, or an edge out of a node. -/
def FromB (starts : List Int) (rows : List (List (Int × Int))) (x : Nat × Int) : Prop :=
  (x.2 = -1 ∧ (x.1 : Int) ∈ starts) ∨ ∃ a : Nat, x.2 = (a : Int) ∧ ∃ e ∈ rows.getD a [], e.1 = (x.1 : Int)
theorem rowF_from {n : Nat} {go : List (Nat × Int) → Bool} {a : Int} {P : Nat × Int → Prop} : ∀ {l : List (Int × Int)} {tr : List (Nat × Int)}, (∀ x ∈ tr, P x) → (∀ e ∈ l, nodeB n e.1 = true → P (e.1.toNat, a)) → ∀ x ∈ (rowF n go a l tr).1, P x
  | [], _, h, _ => h
  | e :: l, tr, h, hl => by
    rw [rowF]
    by_cases h1 : (nodeB n e.1 && !metB tr e.1.toNat) = true
    · have h2 : ∀ x ∈ tr ++ [(e.1.toNat, a)], P x := fun x hx => by
        rcases List.mem_append.1 hx with hx | hx
        · exact h x hx
        · simp only [List.mem_cons, List.not_mem_nil, or_false] at hx
          subst hx
          simp only [Bool.and_eq_true] at h1
          exact hl e (by simp) h1.1
      rw [if_pos h1]
      split
      · exact rowF_from h2 (fun e he => hl e (by simp [he]))
      · exact h2
    · rw [if_neg h1]
      exact rowF_from h (fun e he => hl e (by simp [he]))
theorem node_cast {n : Nat} {z : Int} (h : nodeB n z = true) : ((z.toNat : Nat) : Int) = z := by
  unfold nodeB at h
  have := of_decide_eq_true h
  omega
theorem seaF_from {n : Nat} {rows : List (List (Int × Int))} {go : List (Nat × Int) → Bool} {starts : List Int} : ∀ {f : Nat} {row : List (Int × Int)} {a : Int} {tr : List (Nat × Int)} {h : Nat}, (∀ x ∈ tr, FromB starts rows x) → (∀ e ∈ row, nodeB n e.1 = true → FromB starts rows (e.1.toNat, a)) → ∀ x ∈ seaF n rows go f row a tr h, FromB starts rows x
  | 0, _, _, _, _, h, _ => h
  | f + 1, row, a, tr, k, h, hr => by
    rw [seaF]
    have h2 := rowF_from (go := go) h hr
    split
    · split
      · exact seaF_from h2 (fun e he hn => .inr ⟨_, rfl, e, he, (node_cast hn).symm⟩)
      · exact h2
    · exact h2

/-- No goal but at the end. -/
def NoGoal (goal : List Bool) (tr : List (Nat × Int)) : Prop := ∀ i, i + 1 < tr.length → goal.getD (tr.getD i (0, 0)).1 false = false
theorem goalB_false {goal : List Bool} {tr : List (Nat × Int)} (h : goalB goal tr = false) {i : Nat} (hi : i < tr.length) : goal.getD (tr.getD i (0, 0)).1 false = false := by
  unfold goalB at h
  rw [List.any_eq_false] at h
  have := h tr[i] (List.getElem_mem hi)
  have e : tr.getD i (0, 0) = tr[i] := by simp [List.getD, hi]
  rw [e]
  simpa using this
theorem noGoal_snoc {goal : List Bool} {tr : List (Nat × Int)} (h : goalB goal tr = false) (x : Nat × Int) : NoGoal goal (tr ++ [x]) := fun i hi => by
  have hi2 : i < tr.length := by simp at hi; omega
  rw [getD_app hi2]
  exact goalB_false h hi2
theorem noGoal_of {goal : List Bool} {tr : List (Nat × Int)} (h : goalB goal tr = false) : NoGoal goal tr := fun i hi => goalB_false h (by omega)
theorem rowF_goal {n : Nat} {goal : List Bool} {a : Int} : ∀ {l : List (Int × Int)} {tr : List (Nat × Int)}, goalB goal tr = false → NoGoal goal (rowF n (goP goal) a l tr).1 ∧ ((rowF n (goP goal) a l tr).2 = true → goalB goal (rowF n (goP goal) a l tr).1 = false)
  | [], tr, h => ⟨noGoal_of h, fun _ => h⟩
  | e :: l, tr, h => by
    rw [rowF]
    split
    · by_cases h2 : goP goal (tr ++ [(e.1.toNat, a)]) = true
      · rw [if_pos h2]
        exact rowF_goal (by unfold goP at h2; simpa using h2)
      · rw [if_neg h2]
        exact ⟨noGoal_snoc h _, fun h => by cases h⟩
    · exact rowF_goal h
theorem seaF_goal {n : Nat} {rows : List (List (Int × Int))} {goal : List Bool} : ∀ {f : Nat} {row : List (Int × Int)} {a : Int} {tr : List (Nat × Int)} {h : Nat}, goalB goal tr = false → NoGoal goal (seaF n rows (goP goal) f row a tr h)
  | 0, _, _, _, _, h => noGoal_of h
  | f + 1, row, a, tr, k, h => by
    rw [seaF]
    have h2 := rowF_goal (n := n) (a := a) (l := row) h
    split
    · rename_i h3
      split
      · exact seaF_goal (h2.2 h3)
      · exact h2.1
    · exact h2.1

/-- The way back, node by node: at falling places of what was met. -/
theorem wayF_steps {n : Nat} {tr : List (Nat × Int)} (h : TrOk n tr) (ha : AhOk tr) : ∀ (f : Nat) (z : Int), In tr f z → z ≠ -1 →
    ∃ js : List Nat, js ≠ [] ∧ (∀ j ∈ js, j < tr.length ∧ j < f) ∧ js.Pairwise (fun a b => b < a) ∧ wayF tr f z = js.map (fun j => ((tr.getD j (0, 0)).1 : Int)) ∧ (∀ j, js.head? = some j → z = ((tr.getD j (0, 0)).1 : Int)) ∧ (∀ j, js.getLast? = some j → (tr.getD j (0, 0)).2 = -1) ∧
      (∀ i, i + 1 < js.length → (tr.getD (js.getD i 0) (0, 0)).2 = ((tr.getD (js.getD (i + 1) 0) (0, 0)).1 : Int))
  | 0, z, hz, hn => absurd hz.pos hn
  | f + 1, z, hz, hn => by
    rcases hz with hz | ⟨i, hi, hl, rfl⟩
    · exact absurd hz hn
    · have hnx := (In.next h ha (f := f) (.inr ⟨i, hi, hl, rfl⟩) hn).1
      rw [wayF_next hn]
      rw [Int.toNat_natCast] at hnx ⊢
      have hah := ahead_at h hl
      rw [hah] at hnx ⊢
      by_cases he : (tr.getD i (0, 0)).2 = -1
      · rw [he, wayF_end]
        refine ⟨[i], by simp, fun j hj => ?_, by simp, rfl, fun j hj => ?_, fun j hj => ?_, fun k hk => by simp at hk⟩
        · simp only [List.mem_cons, List.not_mem_nil, or_false] at hj
          subst hj; exact ⟨hl, hi⟩
        · simp at hj; subst hj; rfl
        · simp at hj; subst hj; exact he
      · have hin2 : In tr (min f i) (tr.getD i (0, 0)).2 := by
          rcases ha i hl with h1 | ⟨j, hj, h1⟩
          · exact absurd h1 he
          · exact .inr ⟨j, by omega, by omega, h1.symm⟩
        obtain ⟨js, h1, h2, h3, h4, h5, h6, h7⟩ := wayF_steps h ha f _ hnx he
        -- the first of the rest lies ahead of i
        have hlt : ∀ j ∈ js, j < i := by
          obtain ⟨j0, rest, rfl⟩ : ∃ j0 rest, js = j0 :: rest := by
            cases js with
            | nil => exact absurd rfl h1
            | cons j0 rest => exact ⟨j0, rest, rfl⟩
          have e0 := h5 j0 rfl
          have hj0 : j0 < i := by
            rcases ha i hl with h8 | ⟨j, hj, h8⟩
            · exact absurd h8 he
            · have e9 : (tr.getD j (0, 0)).1 = (tr.getD j0 (0, 0)).1 := by rw [e0] at h8; omega
              have hjl : j < tr.length := by omega
              have hj0l := (h2 j0 (by simp)).1
              have hnd := h.nd
              have : j = j0 := by
                have e1 : (tr.map Prod.fst)[j]'(by simpa using hjl) = (tr.map Prod.fst)[j0]'(by simpa using hj0l) := by
                  simp only [List.getElem_map]
                  have a1 : tr.getD j (0, 0) = tr[j] := by simp [List.getD, hjl]
                  have a2 : tr.getD j0 (0, 0) = tr[j0] := by simp [List.getD, hj0l]
                  rw [← a1, ← a2]; exact e9
                rcases Nat.lt_trichotomy j j0 with h9 | h9 | h9
                · exact absurd e1 ((List.pairwise_iff_getElem.1 hnd) j j0 (by simpa using hjl) (by simpa using hj0l) h9)
                · exact h9
                · exact absurd e1.symm ((List.pairwise_iff_getElem.1 hnd) j0 j (by simpa using hj0l) (by simpa using hjl) h9)
              omega
          intro j hj
          rcases List.mem_cons.1 hj with rfl | hj
          · exact hj0
          · have := (List.pairwise_cons.1 h3).1 j hj
            omega
        refine ⟨i :: js, by simp, fun j hj => ?_, List.pairwise_cons.2 ⟨hlt, h3⟩, by rw [h4]; rfl, fun j hj => ?_, fun j hj => ?_, fun k hk => ?_⟩
        · rcases List.mem_cons.1 hj with rfl | hj
          · exact ⟨hl, hi⟩
          · exact ⟨(h2 j hj).1, by have := (h2 j hj).2; omega⟩
        · simp at hj; subst hj; rfl
        · rw [List.getLast?_cons_of_ne_nil h1] at hj
          exact h6 j hj
        · cases k with
          | zero =>
            obtain ⟨j0, rest, rfl⟩ : ∃ j0 rest, js = j0 :: rest := by
              cases js with
              | nil => exact absurd rfl h1
              | cons j0 rest => exact ⟨j0, rest, rfl⟩
            exact h5 j0 rfl
          | succ k =>
            have := h7 k (by simpa using hk)
            simpa [List.getD] using this

theorem rowL_mem {n a : Nat} {row : List (Int × Int)} {x : Nat × (Int × Int)} (h : x ∈ rowL n a row) : x.1 = a ∧ x.2 ∈ row := by
  unfold rowL at h
  obtain ⟨e, he, rfl⟩ := List.mem_map.1 h
  exact ⟨rfl, (List.mem_filter.1 he).1⟩
theorem leadTo_mem {rows : List (List (Int × Int))} : ∀ {k : Nat} {x : Nat × (Int × Int)}, x ∈ leadTo rows k → x.1 < k ∧ x.2 ∈ rows.getD x.1 []
  | 0, x, h => by simp [leadTo] at h
  | k + 1, x, h => by
    rw [leadTo] at h
    rcases List.mem_append.1 h with h | h
    · have := leadTo_mem h
      exact ⟨by omega, this.2⟩
    · obtain ⟨h1, h2⟩ := rowL_mem h
      rw [h1]
      exact ⟨by omega, h2⟩
theorem turn_mem {rows : List (List (Int × Int))} {a : Nat} {e : Int × Int} (h : e ∈ (turnR rows).getD a []) : ∃ b : Nat, e.1 = (b : Int) ∧ ∃ e' ∈ rows.getD b [], e'.1 = (a : Int) := by
  by_cases ha : a < rows.length
  · have e0 : (turnR rows).getD a [] = turnL (leadTo rows rows.length) a := by simp [turnR, List.getD, ha]
    rw [e0] at h
    unfold turnL at h
    obtain ⟨x, hx, rfl⟩ := List.mem_map.1 h
    obtain ⟨hx1, hx2⟩ := List.mem_filter.1 hx
    exact ⟨x.1, rfl, x.2, (leadTo_mem hx1).2, of_decide_eq_true hx2⟩
  · have e0 : (turnR rows).getD a [] = [] := by simp [turnR, List.getD, List.getElem?_eq_none (show ((List.range rows.length).map (turnL (leadTo rows rows.length))).length ≤ a by simp; omega)]
    rw [e0] at h
    simp at h
theorem turn2_mem {rows : List (List (Int × Int))} {a : Nat} {e : Int × Int} (h : e ∈ (turnR (turnR rows)).getD a []) : ∃ e' ∈ rows.getD a [], e'.1 = e.1 := by
  obtain ⟨b, hb, e1, he1, h1⟩ := turn_mem h
  obtain ⟨c, hc, e2, he2, h2⟩ := turn_mem he1
  have : c = a := by omega
  subst this
  exact ⟨e2, he2, by rw [h2, hb]⟩

/-- What a way is. -/
structure WayOk (rows : List (List (Int × Int))) (from_ : List Int) (goal : List Bool) (L : List Int) : Prop where
  start : L.getD 0 0 ∈ from_
  node : ∀ i, i < L.length → ∃ k : Nat, L.getD i 0 = (k : Int) ∧ k < rows.length
  once : ∀ i j, i < j → j < L.length → L.getD i 0 ≠ L.getD j 0
  len : L.length ≤ rows.length
  goal : ∀ i, i < L.length → goal.getD (L.getD i 0).toNat false = decide (i + 1 = L.length)
  edge : ∀ i, i + 1 < L.length → ∃ e ∈ rows.getD (L.getD i 0).toNat [], e.1 = L.getD (i + 1) 0
theorem endZ_goal {goal : List Bool} : ∀ {tr : List (Nat × Int)}, endZ goal tr ≠ -1 → goal.getD (endZ goal tr).toNat false = true
  | [], h => absurd rfl h
  | x :: l, h => by
    rw [endZ] at h ⊢
    by_cases h1 : goal.getD x.1 false = true
    · rw [if_pos h1] at h ⊢
      by_cases h2 : endZ goal l = -1
      · rw [if_pos h2, Int.toNat_natCast]; exact h1
      · rw [if_neg h2]; exact endZ_goal h2
    · rw [if_neg h1] at h ⊢
      exact endZ_goal h
theorem getD_reverse {α : Type} (l : List α) (d : α) {i : Nat} (h : i < l.length) : l.reverse.getD i d = l.getD (l.length - 1 - i) d := by
  simp only [List.getD]
  rw [List.getElem?_reverse h]
theorem pathL_ok {rows : List (List (Int × Int))} {from_ : List Int} {goal : List Bool} (hne : pathL rows from_ goal ≠ []) : WayOk rows from_ goal (pathL rows from_ goal) := by
  have hok := pathTr_ok rows from_ goal
  have hah := pathTr_ah rows from_ goal
  have hfr : ∀ x ∈ pathTr rows from_ goal, FromB (from_.mergeSort fun x y => decide (x ≤ y)) (turnR (turnR rows)) x := by
    unfold pathTr
    refine seaF_from (fun x hx => by simp at hx) (fun e he hn => ?_)
    unfold edgesF at he
    obtain ⟨z, hz, rfl⟩ := List.mem_map.1 he
    exact .inl ⟨rfl, by show ((z.toNat : Nat) : Int) ∈ _; rw [node_cast hn]; exact hz⟩
  have hng : NoGoal goal (pathTr rows from_ goal) := by unfold pathTr; exact seaF_goal rfl
  have hend := endZ_in goal (pathTr rows from_ goal)
  have hL : pathL rows from_ goal = (wayF (pathTr rows from_ goal) (pathTr rows from_ goal).length (endZ goal (pathTr rows from_ goal))).reverse := rfl
  have hz : endZ goal (pathTr rows from_ goal) ≠ -1 := fun h => hne (by rw [hL, h, wayF_end]; rfl)
  have hgz := endZ_goal hz
  obtain ⟨js, h1, h2, h3, h4, h5, h6, h7⟩ := wayF_steps hok hah _ _ hend hz
  rw [h4] at hL
  rw [hL]
  generalize pathTr rows from_ goal = tr at *
  have hm : ((js.map fun j => ((tr.getD j (0, 0)).1 : Int)).reverse).length = js.length := by simp
  have hpos : 0 < js.length := List.length_pos_iff.2 h1
  have hat : ∀ i, i < js.length → ((js.map fun j => ((tr.getD j (0, 0)).1 : Int)).reverse).getD i 0 = ((tr.getD (js.getD (js.length - 1 - i) 0) (0, 0)).1 : Int) := fun i hi => by
    rw [getD_reverse _ _ (by simpa using hi), List.length_map]
    have : js.length - 1 - i < js.length := by omega
    simp [List.getD, this]
  have hmem : ∀ i, i < js.length → js.getD i 0 ∈ js := fun i hi => by
    have e : js.getD i 0 = js[i] := by simp [List.getD, hi]
    rw [e]; exact List.getElem_mem hi
  have hfall : ∀ i j, i < j → j < js.length → js.getD j 0 < js.getD i 0 := fun i j hij hj => by
    have := (List.pairwise_iff_getElem.1 h3) i j (by omega) hj hij
    have e1 : js.getD i 0 = js[i] := by simp [List.getD, show i < js.length by omega]
    have e2 : js.getD j 0 = js[j] := by simp [List.getD, hj]
    rw [e1, e2]; exact this
  have hinj : ∀ a b, a < tr.length → b < tr.length → (tr.getD a (0, 0)).1 = (tr.getD b (0, 0)).1 → a = b := fun a b ha hb e => by
    have a1 : tr.getD a (0, 0) = tr[a] := by simp [List.getD, ha]
    have a2 : tr.getD b (0, 0) = tr[b] := by simp [List.getD, hb]
    rw [a1, a2] at e
    have e1 : (tr.map Prod.fst)[a]'(by simpa using ha) = (tr.map Prod.fst)[b]'(by simpa using hb) := by simpa using e
    rcases Nat.lt_trichotomy a b with h9 | h9 | h9
    · exact absurd e1 ((List.pairwise_iff_getElem.1 hok.nd) a b (by simpa using ha) (by simpa using hb) h9)
    · exact h9
    · exact absurd e1.symm ((List.pairwise_iff_getElem.1 hok.nd) b a (by simpa using hb) (by simpa using ha) h9)
  have hnode : ∀ i, i < js.length → ∃ k : Nat, ((js.map fun j => ((tr.getD j (0, 0)).1 : Int)).reverse).getD i 0 = (k : Int) ∧ k < rows.length := fun i hi =>
    ⟨_, hat i hi, hok.at_ (h2 _ (hmem _ (by omega))).1⟩
  have honce : ∀ i j, i < j → j < js.length → ((js.map fun j => ((tr.getD j (0, 0)).1 : Int)).reverse).getD i 0 ≠ ((js.map fun j => ((tr.getD j (0, 0)).1 : Int)).reverse).getD j 0 := fun i j hij hj e => by
    rw [hat i (by omega), hat j hj] at e
    have e2 := hinj (js.getD (js.length - 1 - i) 0) (js.getD (js.length - 1 - j) 0) (h2 _ (hmem _ (by omega))).1 (h2 _ (hmem _ (by omega))).1 (by omega)
    have := hfall (js.length - 1 - j) (js.length - 1 - i) (by omega) (by omega)
    omega
  refine ⟨?_, by rw [hm]; exact hnode, by rw [hm]; exact honce, ?_, ?_, ?_⟩
  · rw [hat 0 hpos]
    have hl : js.getLast? = some (js.getD (js.length - 1) 0) := by
      rw [List.getLast?_eq_getElem?]
      simp [List.getD, show js.length - 1 < js.length by omega]
    have hx := h6 _ hl
    have hj := (h2 _ (hmem (js.length - 1) (by omega))).1
    rw [Nat.sub_zero]
    have hmx : tr.getD (js.getD (js.length - 1) 0) (0, 0) ∈ tr := by
      generalize js.getD (js.length - 1) 0 = q at hj
      have e : tr.getD q (0, 0) = tr[q] := by simp [List.getD, hj]
      rw [e]; exact List.getElem_mem hj
    rcases hfr _ hmx with ⟨_, h8⟩ | ⟨a, h8, _⟩
    · exact List.mem_mergeSort.1 h8
    · rw [hx] at h8; omega
  · rw [hm]
    have := nd_len (js.map fun j => (tr.getD j (0, 0)).1) (List.range rows.length) (by
      rw [List.Nodup, List.pairwise_map]
      refine List.Pairwise.imp_of_mem (fun {a b} ha hb hab e => ?_) h3
      have := hinj a b (h2 a ha).1 (h2 b hb).1 e
      omega) (fun x hx => by
      obtain ⟨j, hj, rfl⟩ := List.mem_map.1 hx
      exact List.mem_range.2 (hok.at_ (h2 j hj).1))
    simpa using this
  · rw [hm]
    intro i hi
    rw [hat i hi]
    have hh : endZ goal tr = ((tr.getD (js.getD 0 0) (0, 0)).1 : Int) := h5 _ (by
      rw [List.head?_eq_getElem?]
      simp [List.getD, hpos])
    by_cases hl : i + 1 = js.length
    · rw [show js.length - 1 - i = 0 by omega, ← hh, hgz, decide_eq_true hl]
    · rw [decide_eq_false hl, Int.toNat_natCast]
      have hlt := hfall 0 (js.length - 1 - i) (by omega) (by omega)
      have h0 := (h2 _ (hmem 0 hpos)).1
      exact hng _ (by omega)
  · rw [hm]
    intro i hi
    rw [hat i (by omega), hat (i + 1) hi, Int.toNat_natCast]
    have h8 := h7 (js.length - 1 - (i + 1)) (by omega)
    rw [show js.length - 1 - (i + 1) + 1 = js.length - 1 - i by omega] at h8
    have hj := (h2 _ (hmem (js.length - 1 - (i + 1)) (by omega))).1
    have hmx : tr.getD (js.getD (js.length - 1 - (i + 1)) 0) (0, 0) ∈ tr := by
      generalize js.getD (js.length - 1 - (i + 1)) 0 = q at hj
      have e : tr.getD q (0, 0) = tr[q] := by simp [List.getD, hj]
      rw [e]; exact List.getElem_mem hj
    rcases hfr _ hmx with ⟨h9, _⟩ | ⟨a, h9, e, he, h10⟩
    · rw [h9] at h8; omega
    · rw [h9] at h8
      have ha : a = (tr.getD (js.getD (js.length - 1 - i) 0) (0, 0)).1 := by omega
      rw [← ha]
      obtain ⟨e', he', h11⟩ := turn2_mem he
      exact ⟨e', he', by rw [h11, h10]⟩
end Go.Proofs.Ytjgifbcjokeigaa
