/- The first goal that the search meets ends the least of the shortest ways: plain facts. -/
import Derived.Test.YtjgifbcjokeigaaDualsPure
namespace Go.Proofs.Ytjgifbcjokeigaa

/-- The h-th row that is gone over: the starts, then those of what was met. -/
def RowOf (starts : List Int) (rows : List (List (Int × Int))) (tr : List (Nat × Int)) : Nat → List Int
  | 0 => starts
  | p + 1 => (rows.getD (tr.getD p (0, 0)).1 []).map Prod.fst
def AheadAt (tr : List (Nat × Int)) : Nat → Int
  | 0 => -1
  | p + 1 => ((tr.getD p (0, 0)).1 : Int)
/-- What stands ahead, in a row before or in this one, was met ahead of the i-th. -/
def MetIn (n : Nat) (starts : List Int) (rows : List (List (Int × Int))) (tr : List (Nat × Int)) (i : Nat) : Prop :=
  ∃ q, q ≤ i ∧ (tr.getD i (0, 0)).2 = AheadAt tr q ∧ ∀ h (y : Nat), (h < q ∨ h = q ∧ y < (tr.getD i (0, 0)).1) → (y : Int) ∈ RowOf starts rows tr h → y < n → ∃ i', i' < i ∧ (tr.getD i' (0, 0)).1 = y
theorem rowAt_app {starts : List Int} {rows : List (List (Int × Int))} {tr : List (Nat × Int)} {h : Nat} (hh : h ≤ tr.length) (x : Nat × Int) : RowOf starts rows (tr ++ [x]) h = RowOf starts rows tr h := by
  cases h with
  | zero => rfl
  | succ h => show (rows.getD ((tr ++ [x]).getD h (0, 0)).1 []).map Prod.fst = (rows.getD (tr.getD h (0, 0)).1 []).map Prod.fst; rw [getD_app (by omega)]
theorem aheadAt_app {tr : List (Nat × Int)} {h : Nat} (hh : h ≤ tr.length) (x : Nat × Int) : AheadAt (tr ++ [x]) h = AheadAt tr h := by
  cases h with
  | zero => rfl
  | succ h => show (((tr ++ [x]).getD h (0, 0)).1 : Int) = ((tr.getD h (0, 0)).1 : Int); rw [getD_app (by omega)]
theorem MetIn.app {n : Nat} {starts : List Int} {rows : List (List (Int × Int))} {tr : List (Nat × Int)} {i : Nat} (h : MetIn n starts rows tr i) (hi : i < tr.length) (x : Nat × Int) : MetIn n starts rows (tr ++ [x]) i := by
  obtain ⟨q, hq, h1, h2⟩ := h
  refine ⟨q, hq, by rw [getD_app hi, aheadAt_app (by omega)]; exact h1, fun h y hy hr hn => ?_⟩
  rw [getD_app hi] at hy
  have hh : h ≤ tr.length := by omega
  rw [rowAt_app hh] at hr
  obtain ⟨i', h3, h4⟩ := h2 h y hy hr hn
  exact ⟨i', h3, by rw [getD_app (by omega)]; exact h4⟩
structure LexI (n : Nat) (starts : List Int) (rows : List (List (Int × Int))) (tr : List (Nat × Int)) (h : Nat) : Prop where
  met : ∀ i, i < tr.length → MetIn n starts rows tr i
  hl : h ≤ tr.length
  past : ∀ h' (y : Nat), h' < h → (y : Int) ∈ RowOf starts rows tr h' → y < n → ∃ i', i' < tr.length ∧ (tr.getD i' (0, 0)).1 = y
theorem metB_at {tr : List (Nat × Int)} {k : Nat} (h : metB tr k = true) : ∃ i, i < tr.length ∧ (tr.getD i (0, 0)).1 = k := by
  obtain ⟨x, hx, e⟩ := List.mem_map.1 (metB_iff.1 h)
  obtain ⟨i, hi, rfl⟩ := List.getElem_of_mem hx
  exact ⟨i, hi, by rw [← e]; simp [List.getD, hi]⟩
theorem node_iff {n : Nat} {z : Int} : nodeB n z = true ↔ 0 ≤ z ∧ z < n := by unfold nodeB; exact decide_eq_true_iff
theorem rowF_lex {n : Nat} {starts : List Int} {rows : List (List (Int × Int))} {go : List (Nat × Int) → Bool} {a : Int} {h : Nat} : ∀ {l done : List (Int × Int)} {tr : List (Nat × Int)}, LexI n starts rows tr h → RowOf starts rows tr h = (done ++ l).map Prod.fst → a = AheadAt tr h → (done ++ l).Pairwise (fun x y => x.1 ≤ y.1) → (∀ e ∈ done, nodeB n e.1 = true → ∃ i', i' < tr.length ∧ (tr.getD i' (0, 0)).1 = e.1.toNat) → LexI n starts rows (rowF n go a l tr).1 h
  | [], _, tr, hI, _, _, _, _ => hI
  | e :: l, done, tr, hI, hr, ha, hs, hd => by
    have hdone : done ++ e :: l = (done ++ [e]) ++ l := by simp
    rw [rowF]
    by_cases h1 : (nodeB n e.1 && !metB tr e.1.toNat) = true
    · rw [if_pos h1]
      simp only [Bool.and_eq_true, Bool.not_eq_true'] at h1
      have hn := node_iff.1 h1.1
      have hI2 : LexI n starts rows (tr ++ [(e.1.toNat, a)]) h := by
        refine ⟨fun i hi => ?_, by have := hI.hl; simp; omega, fun h' y hh hy hyn => ?_⟩
        · by_cases hi2 : i < tr.length
          · exact (hI.met i hi2).app hi2 _
          · have : i = tr.length := by simp at hi; omega
            subst this
            refine ⟨h, hI.hl, by rw [getD_app_last, aheadAt_app hI.hl]; exact ha, fun h' y hy hyr hyn => ?_⟩
            rw [getD_app_last] at hy
            have hh' : h' ≤ tr.length := by have := hI.hl; omega
            rw [rowAt_app hh'] at hyr
            have : ∃ i', i' < tr.length ∧ (tr.getD i' (0, 0)).1 = y := by
              rcases hy with hy | ⟨rfl, hy⟩
              · exact hI.past h' y hy hyr hyn
              · rw [hr] at hyr
                obtain ⟨e', he', e1⟩ := List.mem_map.1 hyr
                have hy2 : y < e.1.toNat := hy
                rcases List.mem_append.1 he' with h5 | h5
                · obtain ⟨i', h6, h7⟩ := hd e' h5 (node_iff.2 (by omega))
                  exact ⟨i', h6, by rw [h7]; omega⟩
                · have := (List.pairwise_append.1 hs).2.1
                  rcases List.mem_cons.1 h5 with rfl | h5
                  · omega
                  · have := (List.pairwise_cons.1 this).1 e' h5
                    omega
            obtain ⟨i', h6, h7⟩ := this
            exact ⟨i', h6, by rw [getD_app h6]; exact h7⟩
        · have hh' : h' ≤ tr.length := by have := hI.hl; omega
          rw [rowAt_app hh'] at hy
          obtain ⟨i', h6, h7⟩ := hI.past h' y hh hy hyn
          exact ⟨i', by simp; omega, by rw [getD_app h6]; exact h7⟩
      split
      · refine rowF_lex (done := done ++ [e]) hI2 (by rw [rowAt_app hI.hl, hr, hdone]) (by rw [aheadAt_app hI.hl]; exact ha) (by rw [← hdone]; exact hs) (fun e' he' hn' => ?_)
        rcases List.mem_append.1 he' with h5 | h5
        · obtain ⟨i', h6, h7⟩ := hd e' h5 hn'
          exact ⟨i', by simp; omega, by rw [getD_app h6]; exact h7⟩
        · simp only [List.mem_cons, List.not_mem_nil, or_false] at h5
          subst h5
          exact ⟨tr.length, by simp, by rw [getD_app_last]⟩
      · exact hI2
    · rw [if_neg h1]
      refine rowF_lex (done := done ++ [e]) hI (by rw [hr, hdone]) ha (by rw [← hdone]; exact hs) (fun e' he' hn' => ?_)
      rcases List.mem_append.1 he' with h5 | h5
      · exact hd e' h5 hn'
      · simp only [List.mem_cons, List.not_mem_nil, or_false] at h5
        subst h5
        rw [hn'] at h1
        exact metB_at (by simpa using h1)
theorem rowAt_pre {starts : List Int} {rows : List (List (Int × Int))} {tr s : List (Nat × Int)} {h : Nat} (hh : h ≤ tr.length) : RowOf starts rows (tr ++ s) h = RowOf starts rows tr h := by
  cases h with
  | zero => rfl
  | succ h => show (rows.getD ((tr ++ s).getD h (0, 0)).1 []).map Prod.fst = (rows.getD (tr.getD h (0, 0)).1 []).map Prod.fst; rw [getD_pre (by omega)]
theorem seaF_lex {n : Nat} {rows : List (List (Int × Int))} {go : List (Nat × Int) → Bool} {starts : List Int} (hR : ∀ k, (rows.getD k []).Pairwise (fun x y => x.1 ≤ y.1)) : ∀ {f : Nat} {row : List (Int × Int)} {a : Int} {tr : List (Nat × Int)} {h : Nat}, LexI n starts rows tr h → RowOf starts rows tr h = row.map Prod.fst → a = AheadAt tr h → row.Pairwise (fun x y => x.1 ≤ y.1) → ∀ i, i < (seaF n rows go f row a tr h).length → MetIn n starts rows (seaF n rows go f row a tr h) i
  | 0, _, _, _, _, hI, _, _, _ => hI.met
  | f + 1, row, a, tr, h, hI, hr, ha, hs => by
    have h2 : LexI n starts rows (rowF n go a row tr).1 h := rowF_lex (go := go) (done := []) hI hr ha hs (fun e he => by simp at he)
    rw [seaF]
    split
    · rename_i h3
      split
      · rename_i h4
        obtain ⟨s, hsx⟩ := rowF_prefix (n := n) (go := go) (a := a) row tr
        refine seaF_lex hR (h := h + 1) ⟨h2.met, h4, fun h' y hh hy hyn => ?_⟩ rfl rfl (hR _)
        by_cases e : h' < h
        · exact h2.past h' y e hy hyn
        · obtain rfl : h' = h := by omega
          rw [hsx, rowAt_pre hI.hl, hr] at hy
          obtain ⟨e', he', e1⟩ := List.mem_map.1 hy
          have := rowF_met (n := n) (go := go) (a := a) h3 e' he' (node_iff.2 (by omega))
          obtain ⟨i', h6, h7⟩ := metB_at this
          exact ⟨i', h6, by rw [h7]; omega⟩
      · exact h2.met
    · exact h2.met

theorem leadTo_rise (rows : List (List (Int × Int))) : ∀ k, (leadTo rows k).Pairwise (fun x y => x.1 ≤ y.1)
  | 0 => by simp [leadTo]
  | k + 1 => by
    rw [leadTo, List.pairwise_append]
    refine ⟨leadTo_rise rows k, ?_, fun x hx y hy => ?_⟩
    · refine List.pairwise_iff_getElem.2 (fun i j hi hj _ => ?_)
      have h1 := (rowL_mem (List.getElem_mem hi)).1
      have h2 := (rowL_mem (List.getElem_mem hj)).1
      omega
    · have h1 := (leadTo_mem hx).1
      have h2 := (rowL_mem hy).1
      omega
theorem turnR_rise (rows : List (List (Int × Int))) (k : Nat) : ((turnR rows).getD k []).Pairwise (fun x y => x.1 ≤ y.1) := by
  by_cases ha : k < rows.length
  · have e0 : (turnR rows).getD k [] = turnL (leadTo rows rows.length) k := by simp [turnR, List.getD, ha]
    rw [e0]
    unfold turnL
    rw [List.pairwise_map]
    refine ((leadTo_rise rows rows.length).sublist List.filter_sublist).imp (fun h => ?_)
    exact Int.ofNat_le.2 h
  · have e0 : (turnR rows).getD k [] = [] := by simp [turnR, List.getD, List.getElem?_eq_none (show ((List.range rows.length).map (turnL (leadTo rows rows.length))).length ≤ k by simp; omega)]
    rw [e0]; exact List.Pairwise.nil
theorem pathTr_met (rows : List (List (Int × Int))) (from_ : List Int) (goal : List Bool) : ∀ i, i < (pathTr rows from_ goal).length → MetIn rows.length (from_.mergeSort fun x y => decide (x ≤ y)) (turnR (turnR rows)) (pathTr rows from_ goal) i := by
  unfold pathTr
  refine seaF_lex (turnR_rise _) ⟨fun i hi => by simp at hi, by simp, fun h' y hh => absurd hh (Nat.not_lt_zero _)⟩ ?_ rfl ?_
  · show (from_.mergeSort fun x y => decide (x ≤ y)) = (edgesF (from_.mergeSort fun x y => decide (x ≤ y))).map Prod.fst
    unfold edgesF
    rw [List.map_map]
    simp [Function.comp_def]
  · unfold edgesF
    rw [List.pairwise_map]
    have := List.pairwise_mergeSort (le := fun x y : Int => decide (x ≤ y)) (fun a b c h1 h2 => by simp at h1 h2 ⊢; omega) (fun a b => by simp; omega) from_
    exact this.imp (fun h => by simpa using h)

/-- How far each node is from a goal. -/
structure FarOk (n : Nat) (rows : List (List (Int × Int))) (goal : List Bool) (d : List Int) : Prop where
  len : d.length = n
  le : ∀ k, k < n → -1 ≤ d.getD k 0 ∧ d.getD k 0 ≤ n
  goal : ∀ k, k < n → (goal.getD k false = true ↔ d.getD k 0 = 0)
  down : ∀ k, k < n → 0 < d.getD k 0 → ∃ e ∈ rows.getD k [], nodeB n e.1 = true ∧ d.getD e.1.toNat 0 = d.getD k 0 - 1
  up : ∀ k, k < n → ∀ e ∈ rows.getD k [], nodeB n e.1 = true → 0 ≤ d.getD e.1.toNat 0 → 0 ≤ d.getD k 0 ∧ d.getD k 0 ≤ d.getD e.1.toNat 0 + 1
/-- The least start of those that are nearest. -/
def StartOk (n : Nat) (from_ : List Int) (d : List Int) (at_ : Nat) : Prop :=
  (at_ : Int) ∈ from_ ∧ at_ < n ∧ 0 ≤ d.getD at_ 0 ∧ ∀ z ∈ from_, nodeB n z = true → 0 ≤ d.getD z.toNat 0 → d.getD at_ 0 < d.getD z.toNat 0 ∨ d.getD at_ 0 = d.getD z.toNat 0 ∧ (at_ : Int) ≤ z
/-- The least of those that lead on. -/
def NextOk (n : Nat) (rows : List (List (Int × Int))) (d : List Int) (a b : Nat) : Prop :=
  b < n ∧ d.getD b 0 = d.getD a 0 - 1 ∧ (∃ e ∈ rows.getD a [], e.1 = (b : Int)) ∧ ∀ e ∈ rows.getD a [], nodeB n e.1 = true → d.getD e.1.toNat 0 = d.getD a 0 - 1 → (b : Int) ≤ e.1
theorem least_none {rows : List (List (Int × Int))} {from_ : List Int} {goal : List Bool} {d : List Int} (hd : FarOk rows.length rows goal d) (hn : ∀ z ∈ from_, nodeB rows.length z = true → d.getD z.toNat 0 < 0) : pathL rows from_ goal = [] := by
  apply Classical.byContradiction
  intro h
  obtain ⟨h1, h2, _, _, h5, h6⟩ := pathL_ok h
  generalize pathL rows from_ goal = P at *
  have hpos := List.length_pos_iff.2 h
  have key : ∀ i, i < P.length → 0 ≤ d.getD (P.getD (P.length - 1 - i) 0).toNat 0 := by
    intro i
    induction i with
    | zero =>
      intro hi
      obtain ⟨k, e, hk⟩ := h2 (P.length - 1 - 0) (by omega)
      have hg := h5 (P.length - 1 - 0) (by omega)
      rw [e, Int.toNat_natCast] at hg ⊢
      have := (hd.goal k hk).1 (by rw [hg]; simp; omega)
      omega
    | succ i ih =>
      intro hi
      have hp := ih (by omega)
      obtain ⟨k, e, hk⟩ := h2 (P.length - 1 - (i + 1)) (by omega)
      obtain ⟨e', he', e1⟩ := h6 (P.length - 1 - (i + 1)) (by omega)
      rw [show P.length - 1 - (i + 1) + 1 = P.length - 1 - i by omega] at e1
      obtain ⟨k2, e2, hk2⟩ := h2 (P.length - 1 - i) (by omega)
      rw [e, Int.toNat_natCast] at he' ⊢
      exact (hd.up k hk e' he' (node_iff.2 (by omega)) (by rw [e1]; exact hp)).1
  have h0 := key (P.length - 1) (by omega)
  rw [show P.length - 1 - (P.length - 1) = 0 by omega] at h0
  obtain ⟨k, e, hk⟩ := h2 0 hpos
  have := hn _ h1 (node_iff.2 (by omega))
  omega
/-- The told way by the places of its nodes in what was met. -/
theorem pathL_at {rows : List (List (Int × Int))} {from_ : List Int} {goal : List Bool} (hne : pathL rows from_ goal ≠ []) : ∃ (m : Nat) (p : Nat → Nat), (pathL rows from_ goal).length = m + 1 ∧ (∀ i, i ≤ m → p i < (pathTr rows from_ goal).length ∧ (pathL rows from_ goal).getD i 0 = (((pathTr rows from_ goal).getD (p i) (0, 0)).1 : Int)) ∧ ((pathTr rows from_ goal).getD (p 0) (0, 0)).2 = -1 ∧
    (∀ i, i < m → ((pathTr rows from_ goal).getD (p (i + 1)) (0, 0)).2 = (((pathTr rows from_ goal).getD (p i) (0, 0)).1 : Int)) := by
  have hok := pathTr_ok rows from_ goal
  have hah := pathTr_ah rows from_ goal
  have hend := endZ_in goal (pathTr rows from_ goal)
  have hL : pathL rows from_ goal = (wayF (pathTr rows from_ goal) (pathTr rows from_ goal).length (endZ goal (pathTr rows from_ goal))).reverse := rfl
  have hz : endZ goal (pathTr rows from_ goal) ≠ -1 := fun h => hne (by rw [hL, h, wayF_end]; rfl)
  obtain ⟨js, h1, h2, h3, h4, h5, h6, h7⟩ := wayF_steps hok hah _ _ hend hz
  rw [h4] at hL
  rw [hL]
  generalize pathTr rows from_ goal = tr at *
  have hpos : 0 < js.length := List.length_pos_iff.2 h1
  have hmem : ∀ i, i < js.length → js.getD i 0 ∈ js := fun i hi => by
    have e : js.getD i 0 = js[i] := by simp [List.getD, hi]
    rw [e]; exact List.getElem_mem hi
  refine ⟨js.length - 1, fun i => js.getD (js.length - 1 - i) 0, by simp; omega, fun i hi => ⟨(h2 _ (hmem _ (by omega))).1, ?_⟩, ?_, fun i hi => ?_⟩
  · rw [getD_reverse _ _ (by simp; omega), List.length_map]
    have : js.length - 1 - i < js.length := by omega
    simp [List.getD, this]
  · refine h6 _ ?_
    rw [List.getLast?_eq_getElem?]
    have : js.length - 1 < js.length := by omega
    simp [List.getD, this]
  · have := h7 (js.length - 1 - (i + 1)) (by omega)
    rw [show js.length - 1 - (i + 1) + 1 = js.length - 1 - i by omega] at this
    exact this
/-- A way that is met ahead of the told one somewhere is so to its end. -/
theorem ahead_all {n : Nat} {starts : List Int} {rows : List (List (Int × Int))} {tr : List (Nat × Int)} (hok : TrOk n tr) (hmet : ∀ i, i < tr.length → MetIn n starts rows tr i) {m : Nat} {p : Nat → Nat} (hp : ∀ i, i ≤ m → p i < tr.length) (hs : ∀ i, i < m → (tr.getD (p (i + 1)) (0, 0)).2 = ((tr.getD (p i) (0, 0)).1 : Int))
    {u : Nat → Nat} {D : Nat} (hu : ∀ j, j < D → ∃ e ∈ rows.getD (u j) [], e.1 = (u (j + 1) : Int)) (hun : ∀ j, j ≤ D → u j < n) {i k : Nat} (h0 : ∃ x, x < p k ∧ (tr.getD x (0, 0)).1 = u i) : ∀ j, i + j ≤ D → k + j ≤ m → ∃ x, x < p (k + j) ∧ (tr.getD x (0, 0)).1 = u (i + j)
  | 0, _, _ => h0
  | j + 1, hj, hk => by
    obtain ⟨x, hx, hxu⟩ := ahead_all hok hmet hp hs hu hun h0 j (by omega) (by omega)
    obtain ⟨q, hq, h1, h2⟩ := hmet (p (k + (j + 1))) (hp _ hk)
    have h3 := hs (k + j) (by omega)
    rw [show k + j + 1 = k + (j + 1) by omega] at h3
    rw [h3] at h1
    cases q with
    | zero => simp [AheadAt] at h1
    | succ q =>
      have h1 : ((tr.getD (p (k + j)) (0, 0)).1 : Int) = ((tr.getD q (0, 0)).1 : Int) := h1
      have hql : q < tr.length := by have := hp _ hk; omega
      have hpl := hp (k + j) (by omega)
      have e : p (k + j) = q := by
        have h4 : (tr.map Prod.fst)[p (k + j)]'(by simpa using hpl) = (tr.map Prod.fst)[q]'(by simpa using hql) := by
          simp only [List.getElem_map]
          have a1 : tr.getD (p (k + j)) (0, 0) = tr[p (k + j)] := by simp [List.getD, hpl]
          have a2 : tr.getD q (0, 0) = tr[q] := by simp [List.getD, hql]
          rw [← a1, ← a2]; omega
        rcases Nat.lt_trichotomy (p (k + j)) q with h9 | h9 | h9
        · exact absurd h4 ((List.pairwise_iff_getElem.1 hok.nd) _ _ (by simpa using hpl) (by simpa using hql) h9)
        · exact h9
        · exact absurd h4.symm ((List.pairwise_iff_getElem.1 hok.nd) _ _ (by simpa using hql) (by simpa using hpl) h9)
      obtain ⟨i', h5, h6⟩ := h2 (x + 1) (u (i + (j + 1))) (.inl (by omega)) (by
        show _ ∈ (rows.getD (tr.getD x (0, 0)).1 []).map Prod.fst
        rw [hxu]
        obtain ⟨e', he', e1⟩ := hu (i + j) (by omega)
        exact List.mem_map.2 ⟨e', he', e1⟩) (hun _ (by omega))
      exact ⟨i', h5, h6⟩
theorem least_some {rows : List (List (Int × Int))} {from_ : List Int} {goal : List Bool} {d : List Int} (hd : FarOk rows.length rows goal d) {u : Nat → Nat} {D : Nat} (h0 : StartOk rows.length from_ d (u 0)) (hD : d.getD (u 0) 0 = (D : Int)) (hn : ∀ i, i < D → NextOk rows.length rows d (u i) (u (i + 1))) :
    pathL rows from_ goal = (List.range (D + 1)).map (fun i => (u i : Int)) := by
  have hun : ∀ j, j ≤ D → u j < rows.length := fun j hj => by
    cases j with
    | zero => exact h0.2.1
    | succ j => exact (hn j (by omega)).1
  have hud : ∀ j, j ≤ D → d.getD (u j) 0 = (D : Int) - j := fun j => by
    induction j with
    | zero => intro _; rw [hD]; simp
    | succ j ih => intro hj; rw [(hn j (by omega)).2.1, ih (by omega)]; omega
  have hue : ∀ j, j < D → ∃ e ∈ rows.getD (u j) [], e.1 = (u (j + 1) : Int) := fun j hj => (hn j hj).2.2.1
  have hrch : ∀ j, j ≤ D → Rch rows.length rows from_ (u j) := fun j => by
    induction j with
    | zero => intro _; have := Rch.start (n := rows.length) (rows := rows) (u 0 : Int) h0.1 (node_iff.2 (by have := h0.2.1; omega)); rwa [Int.toNat_natCast] at this
    | succ j ih =>
      intro hj
      obtain ⟨e, he, e1⟩ := hue j (by omega)
      have h2 := hun (j + 1) hj
      have := Rch.step (u j) e (ih (by omega)) he (node_iff.2 (by omega))
      rwa [e1, Int.toNat_natCast] at this
  have hgD : goal.getD (u D) false = true := (hd.goal _ (hun D (Nat.le_refl _))).2 (by rw [hud D (Nat.le_refl _)]; omega)
  have hne : pathL rows from_ goal ≠ [] := path_iff.2 ⟨u D, hgD, hrch D (Nat.le_refl _)⟩
  have hW := pathL_ok hne
  obtain ⟨m, p, hm, hp, hp0, hps⟩ := pathL_at hne
  have hok := pathTr_ok rows from_ goal
  have hmet := pathTr_met rows from_ goal
  have hng : NoGoal goal (pathTr rows from_ goal) := by unfold pathTr; exact seaF_goal rfl
  generalize pathL rows from_ goal = P at *
  generalize pathTr rows from_ goal = tr at *
  have hpl : ∀ i, i ≤ m → p i < tr.length := fun i hi => (hp i hi).1
  obtain ⟨v, hv⟩ : ∃ v : Nat → Nat, v = fun i => (tr.getD (p i) (0, 0)).1 := ⟨_, rfl⟩
  have hvi : ∀ i, (tr.getD (p i) (0, 0)).1 = v i := fun i => by rw [hv]
  have hPv : ∀ i, i ≤ m → P.getD i 0 = (v i : Int) := fun i hi => by rw [(hp i hi).2, hvi]
  have hvn : ∀ i, i ≤ m → v i < rows.length := fun i hi => by rw [← hvi]; exact hok.at_ (hpl i hi)
  have hve : ∀ i, i < m → ∃ e ∈ rows.getD (v i) [], e.1 = (v (i + 1) : Int) := fun i hi => by
    have := hW.edge i (by omega)
    rwa [hPv i (by omega), hPv (i + 1) (by omega), Int.toNat_natCast] at this
  have hvg : d.getD (v m) 0 = 0 := by
    refine (hd.goal _ (hvn m (Nat.le_refl _))).1 ?_
    have := hW.goal m (by omega)
    rw [hPv m (Nat.le_refl _), Int.toNat_natCast] at this
    rw [this]; simp [hm]
  -- nothing that is met ahead of the told way's end is a goal
  have hno : ∀ k, k ≤ m → ∀ x, x < p k → goal.getD (tr.getD x (0, 0)).1 false = false := fun k hk x hx => hng x (by have := hpl k hk; omega)
  -- how far the told way's nodes are at most
  have hvd : ∀ i, i ≤ m → 0 ≤ d.getD (v (m - i)) 0 ∧ d.getD (v (m - i)) 0 ≤ (i : Int) := fun i => by
    induction i with
    | zero => intro _; rw [Nat.sub_zero, hvg]; simp
    | succ i ih =>
      intro hi
      obtain ⟨a1, a2⟩ := ih (by omega)
      obtain ⟨e, he, e1⟩ := hve (m - (i + 1)) (by omega)
      rw [show m - (i + 1) + 1 = m - i by omega] at e1
      have h3 := hvn (m - i) (by omega)
      obtain ⟨b1, b2⟩ := hd.up _ (hvn (m - (i + 1)) (by omega)) e he (node_iff.2 (by omega)) (by rw [e1, Int.toNat_natCast]; exact a1)
      rw [e1, Int.toNat_natCast] at b2
      exact ⟨b1, by omega⟩
  have hst : (v 0 : Int) ∈ from_ := by have := hW.start; rwa [hPv 0 (by omega)] at this
  have hR : ∀ j, j < D → ∃ e ∈ (turnR (turnR rows)).getD (u j) [], e.1 = (u (j + 1) : Int) := fun j hj => by
    obtain ⟨e, he, e1⟩ := hue j hj
    have h2 := hun (j + 1) (by omega)
    obtain ⟨e', he', e2⟩ := turn2_has he (node_iff.2 (by omega))
    exact ⟨e', he', by rw [e2, e1]⟩
  have hmem : ∀ {z : Int}, z ∈ from_ → z ∈ from_.mergeSort (fun x y => decide (x ≤ y)) := fun hz => List.mem_mergeSort.2 hz
  have hv0 := hvd m (Nat.le_refl _)
  rw [Nat.sub_self] at hv0
  have hmin := h0.2.2.2 _ hst (node_iff.2 (by have := hvn 0 (by omega); omega)) (by rw [Int.toNat_natCast]; exact hv0.1)
  rw [Int.toNat_natCast, hD] at hmin
  -- as long
  have hDm : D = m := by
    apply Classical.byContradiction
    intro hne2
    have hlt : D < m := by omega
    obtain ⟨q, hq, h1, h2⟩ := hmet (p 1) (hpl 1 (by omega))
    have h3 := hps 0 (by omega)
    rw [Nat.zero_add] at h3
    have hq1 : 0 < q := by
      cases q with
      | zero => rw [h3] at h1; simp [AheadAt] at h1
      | succ q => omega
    obtain ⟨x, hx, hxu⟩ := h2 0 (u 0) (.inl hq1) (hmem h0.1) (hun 0 (by omega))
    obtain ⟨y, hy, hyu⟩ := ahead_all hok hmet hpl hps hR hun (i := 0) (k := 1) ⟨x, hx, hxu⟩ D (by omega) (by omega)
    have := hno (1 + D) (by omega) y hy
    rw [hyu, Nat.zero_add, hgD] at this
    cases this
  subst hDm
  -- how far the told way's nodes are
  have hvx : ∀ i, i ≤ D → d.getD (v i) 0 = (D : Int) - i := fun i => by
    induction i with
    | zero => intro _; omega
    | succ i ih =>
      intro hi
      have a1 := ih (by omega)
      obtain ⟨b1, b2⟩ := hvd (D - (i + 1)) (by omega)
      rw [show D - (D - (i + 1)) = i + 1 by omega] at b1 b2
      obtain ⟨e, he, e1⟩ := hve i (by omega)
      have h3 := hvn (i + 1) hi
      obtain ⟨c1, c2⟩ := hd.up _ (hvn i (by omega)) e he (node_iff.2 (by omega)) (by rw [e1, Int.toNat_natCast]; exact b1)
      rw [e1, Int.toNat_natCast] at c2
      omega
  -- node by node
  have huv : ∀ i, i ≤ D → u i = v i := fun i => by
    induction i with
    | zero =>
      intro _
      have hle : u 0 ≤ v 0 := by have := hvx 0 (by omega); omega
      apply Classical.byContradiction
      intro hne2
      obtain ⟨q, hq, h1, h2⟩ := hmet (p 0) (hpl 0 (by omega))
      have hq0 : q = 0 := by
        cases q with
        | zero => rfl
        | succ q => rw [hp0] at h1; simp [AheadAt] at h1
      subst hq0
      obtain ⟨x, hx, hxu⟩ := h2 0 (u 0) (.inr ⟨rfl, by rw [hvi]; omega⟩) (hmem h0.1) (hun 0 (by omega))
      obtain ⟨y, hy, hyu⟩ := ahead_all hok hmet hpl hps hR hun (i := 0) (k := 0) ⟨x, hx, hxu⟩ D (by omega) (by omega)
      have := hno (0 + D) (by omega) y hy
      rw [hyu, Nat.zero_add, hgD] at this
      cases this
    | succ i ih =>
      intro hi
      have e0 := ih (by omega)
      obtain ⟨e, he, e1⟩ := hve i (by omega)
      have h3 := hvn (i + 1) hi
      have hle := (hn i (by omega)).2.2.2 e (by rw [e0]; exact he) (node_iff.2 (by omega)) (by rw [e1, Int.toNat_natCast, hvx _ hi, hud i (by omega)]; omega)
      rw [e1] at hle
      apply Classical.byContradiction
      intro hne2
      have hlt : u (i + 1) < v (i + 1) := by omega
      obtain ⟨q, hq, h1, h2⟩ := hmet (p (i + 1)) (hpl (i + 1) hi)
      rw [hps i (by omega)] at h1
      cases q with
      | zero => simp [AheadAt] at h1
      | succ q =>
        have h1 : ((tr.getD (p i) (0, 0)).1 : Int) = ((tr.getD q (0, 0)).1 : Int) := h1
        obtain ⟨e', he', e2⟩ := hR i (by omega)
        obtain ⟨x, hx, hxu⟩ := h2 (q + 1) (u (i + 1)) (.inr ⟨rfl, by rw [hvi]; exact hlt⟩) (by
          show _ ∈ ((turnR (turnR rows)).getD (tr.getD q (0, 0)).1 []).map Prod.fst
          have : (tr.getD q (0, 0)).1 = u i := by rw [e0, ← hvi]; omega
          rw [this]
          exact List.mem_map.2 ⟨e', he', e2⟩) (hun _ hi)
        obtain ⟨y, hy, hyu⟩ := ahead_all hok hmet hpl hps hR hun (i := i + 1) (k := i + 1) ⟨x, hx, hxu⟩ (D - (i + 1)) (by omega) (by omega)
        have := hno _ (by omega) y hy
        rw [hyu, show i + 1 + (D - (i + 1)) = D by omega, hgD] at this
        cases this
  apply List.ext_getElem
  · rw [hm]; simp
  · intro i h1 h2
    have hi : i ≤ D := by omega
    have e1 : P[i] = P.getD i 0 := by simp [List.getD, h1]
    rw [e1, hPv i hi, ← huv i hi]
    simp
end Go.Proofs.Ytjgifbcjokeigaa
