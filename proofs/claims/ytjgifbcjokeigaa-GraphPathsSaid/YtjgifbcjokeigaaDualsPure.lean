/- What a search meets is what is reached, and the turned graph's the other way round: plain facts. -/
import Derived.Test.YtjgifbcjokeigaaStepsPure
namespace Go.Proofs.Ytjgifbcjokeigaa

/-- Nodes that ways lead to from the starts. -/
inductive Rch (n : Nat) (rows : List (List (Int × Int))) (starts : List Int) : Nat → Prop
  | start (z : Int) (hz : z ∈ starts) (hn : nodeB n z = true) : Rch n rows starts z.toNat
  | step (a : Nat) (e : Int × Int) (ha : Rch n rows starts a) (he : e ∈ rows.getD a []) (hn : nodeB n e.1 = true) : Rch n rows starts e.1.toNat

theorem getD_mem {tr : List (Nat × Int)} {i : Nat} (h : i < tr.length) : tr.getD i (0, 0) ∈ tr := by
  have e : tr.getD i (0, 0) = tr[i] := by simp [List.getD, h]
  rw [e]; exact List.getElem_mem h
theorem seaF_rch {n : Nat} {rows : List (List (Int × Int))} {go : List (Nat × Int) → Bool} {starts : List Int} : ∀ {f : Nat} {row : List (Int × Int)} {a : Int} {tr : List (Nat × Int)} {h : Nat}, (∀ x ∈ tr, Rch n rows starts x.1) → (∀ e ∈ row, nodeB n e.1 = true → Rch n rows starts e.1.toNat) → ∀ x ∈ seaF n rows go f row a tr h, Rch n rows starts x.1
  | 0, _, _, _, _, h, _ => h
  | f + 1, row, a, tr, k, h, hr => by
    rw [seaF]
    have h2 := rowF_from (go := go) (a := a) (P := fun x => Rch n rows starts x.1) h hr
    split
    · split
      · rename_i h3
        exact seaF_rch h2 (fun e he hn => .step _ e (h2 _ (getD_mem h3)) he hn)
      · exact h2
    · exact h2

theorem metB_mono {tr s : List (Nat × Int)} {k : Nat} (h : metB tr k = true) : metB (tr ++ s) k = true := by
  unfold metB at h ⊢
  rw [List.any_append, h]; rfl
theorem rowF_prefix {n : Nat} {go : List (Nat × Int) → Bool} {a : Int} : ∀ (l : List (Int × Int)) (tr : List (Nat × Int)), ∃ s, (rowF n go a l tr).1 = tr ++ s
  | [], tr => ⟨[], by rw [List.append_nil]; rfl⟩
  | e :: l, tr => by
    rw [rowF]
    split
    · split
      · obtain ⟨s, h⟩ := rowF_prefix (n := n) (go := go) (a := a) l (tr ++ [(e.1.toNat, a)])
        exact ⟨[(e.1.toNat, a)] ++ s, by rw [h, List.append_assoc]⟩
      · exact ⟨_, rfl⟩
    · exact rowF_prefix l tr
theorem rowF_halt {n : Nat} {go : List (Nat × Int) → Bool} {a : Int} : ∀ {l : List (Int × Int)} {tr : List (Nat × Int)}, (rowF n go a l tr).2 = false → go (rowF n go a l tr).1 = false
  | [], _, h => by cases h
  | e :: l, tr, h => by
    rw [rowF] at h ⊢
    by_cases h1 : (nodeB n e.1 && !metB tr e.1.toNat) = true
    · rw [if_pos h1] at h ⊢
      by_cases h2 : go (tr ++ [(e.1.toNat, a)]) = true
      · rw [if_pos h2] at h ⊢
        exact rowF_halt h
      · rw [if_neg h2]
        simpa using h2
    · rw [if_neg h1] at h ⊢
      exact rowF_halt h
theorem rowF_met {n : Nat} {go : List (Nat × Int) → Bool} {a : Int} : ∀ {l : List (Int × Int)} {tr : List (Nat × Int)}, (rowF n go a l tr).2 = true → ∀ e ∈ l, nodeB n e.1 = true → metB (rowF n go a l tr).1 e.1.toNat = true
  | [], _, _, e, he, _ => by simp at he
  | e :: l, tr, h, e', he, hn => by
    rw [rowF] at h ⊢
    by_cases h1 : (nodeB n e.1 && !metB tr e.1.toNat) = true
    · rw [if_pos h1] at h ⊢
      by_cases h2 : go (tr ++ [(e.1.toNat, a)]) = true
      · rw [if_pos h2] at h ⊢
        rcases List.mem_cons.1 he with rfl | he
        · obtain ⟨s, hs⟩ := rowF_prefix (n := n) (go := go) (a := a) l (tr ++ [(e'.1.toNat, a)])
          rw [hs]
          exact metB_mono (by rw [metB_snoc]; simp)
        · exact rowF_met h e' he hn
      · rw [if_neg h2] at h; cases h
    · rw [if_neg h1] at h ⊢
      rcases List.mem_cons.1 he with rfl | he
      · obtain ⟨s, hs⟩ := rowF_prefix (n := n) (go := go) (a := a) l tr
        rw [hs]
        refine metB_mono ?_
        rw [hn] at h1
        simpa using h1
      · exact rowF_met h e' he hn

/-- All that is to be met has been met. -/
structure Full (n : Nat) (rows : List (List (Int × Int))) (starts : List Int) (tr : List (Nat × Int)) : Prop where
  start : ∀ z ∈ starts, nodeB n z = true → metB tr z.toNat = true
  step : ∀ i, i < tr.length → ∀ e ∈ rows.getD (tr.getD i (0, 0)).1 [], nodeB n e.1 = true → metB tr e.1.toNat = true
theorem getD_pre {tr s : List (Nat × Int)} {i : Nat} (h : i < tr.length) : (tr ++ s).getD i (0, 0) = tr.getD i (0, 0) := by
  simp only [List.getD, List.getElem?_append_left h]
theorem seaF_full {n : Nat} {rows : List (List (Int × Int))} {go : List (Nat × Int) → Bool} {starts : List Int} : ∀ {f : Nat} {row : List (Int × Int)} {a : Int} {tr : List (Nat × Int)} {h : Nat}, TrOk n tr → h ≤ tr.length → n < f + h →
    (∀ z ∈ starts, nodeB n z = true → metB tr z.toNat = true ∨ ∃ e ∈ row, e.1 = z) → (∀ i, i < h → ∀ e ∈ rows.getD (tr.getD i (0, 0)).1 [], nodeB n e.1 = true → metB tr e.1.toNat = true ∨ ∃ e' ∈ row, e'.1 = e.1) →
    go (seaF n rows go f row a tr h) = false ∨ Full n rows starts (seaF n rows go f row a tr h)
  | 0, row, a, tr, k, hok, hk, hf, _, _ => by have := hok.len; omega
  | f + 1, row, a, tr, k, hok, hk, hf, hs, he => by
    rw [seaF]
    have hok2 : TrOk n (rowF n go a row tr).1 := rowF_ok hok
    by_cases h2 : (rowF n go a row tr).2 = true
    · rw [if_pos h2]
      have hm := rowF_met h2
      obtain ⟨s, hp⟩ := rowF_prefix (n := n) (go := go) (a := a) row tr
      have hlen : tr.length ≤ (rowF n go a row tr).1.length := by rw [hp]; simp
      have hs2 : ∀ z ∈ starts, nodeB n z = true → metB (rowF n go a row tr).1 z.toNat = true := fun z hz hn => by
        rcases hs z hz hn with h3 | ⟨e, h3, rfl⟩
        · rw [hp]; exact metB_mono h3
        · exact hm e h3 hn
      have he2 : ∀ i, i < k → ∀ e ∈ rows.getD ((rowF n go a row tr).1.getD i (0, 0)).1 [], nodeB n e.1 = true → metB (rowF n go a row tr).1 e.1.toNat = true := fun i hi e hee hn => by
        rw [hp, getD_pre (by omega)] at hee
        rcases he i hi e hee hn with h3 | ⟨e', h3, h4⟩
        · rw [hp]; exact metB_mono h3
        · have := hm e' h3 (by rw [h4]; exact hn)
          rwa [h4] at this
      by_cases h3 : k < (rowF n go a row tr).1.length
      · rw [if_pos h3]
        refine seaF_full hok2 (by omega) (by omega) (fun z hz hn => .inl (hs2 z hz hn)) (fun i hi e hee hn => ?_)
        by_cases h4 : i = k
        · subst h4; exact .inr ⟨e, hee, rfl⟩
        · exact .inl (he2 i (by omega) e hee hn)
      · rw [if_neg h3]
        exact .inr ⟨hs2, fun i hi => he2 i (by omega)⟩
    · rw [if_neg h2]
      exact .inl (rowF_halt (by simpa using h2))
theorem Full.met {n : Nat} {rows : List (List (Int × Int))} {starts : List Int} {tr : List (Nat × Int)} (h : Full n rows starts tr) {k : Nat} (hr : Rch n rows starts k) : metB tr k = true := by
  induction hr with
  | start z hz hn => exact h.start z hz hn
  | step a e _ he hn ih =>
    obtain ⟨x, hx, rfl⟩ := List.mem_map.1 (metB_iff.1 ih)
    obtain ⟨i, hi, rfl⟩ := List.getElem_of_mem hx
    have e0 : tr.getD i (0, 0) = tr[i] := by simp [List.getD, hi]
    exact h.step i hi e (by rw [e0]; exact he) hn
theorem edgesF_cov {starts : List Int} {z : Int} (hz : z ∈ starts) : ∃ e ∈ edgesF starts, e.1 = z := ⟨(z, 0), List.mem_map.2 ⟨z, hz, rfl⟩, rfl⟩
theorem sea_rch {n : Nat} {rows : List (List (Int × Int))} {go : List (Nat × Int) → Bool} {starts : List Int} {f : Nat} {a : Int} {x : Nat × Int} (h : x ∈ seaF n rows go f (edgesF starts) a [] 0) : Rch n rows starts x.1 :=
  seaF_rch (fun x hx => by simp at hx) (fun e he hn => by
    obtain ⟨z, hz, rfl⟩ := List.mem_map.1 he
    exact .start z hz hn) x h
theorem seen_iff {n : Nat} {rows : List (List (Int × Int))} {starts : List Int} {k : Nat} : metB (seen n rows starts) k = true ↔ Rch n rows starts k := by
  constructor
  · intro h
    obtain ⟨x, hx, rfl⟩ := List.mem_map.1 (metB_iff.1 h)
    exact sea_rch hx
  · intro h
    rcases seaF_full (go := fun _ => true) (a := -1) (starts := starts) (rows := rows) (f := n + 1) (row := edgesF starts) (TrOk.nil n) (Nat.zero_le _) (by omega) (fun z hz _ => .inr (edgesF_cov hz)) (fun i hi => absurd hi (Nat.not_lt_zero _)) with h1 | h1
    · cases h1
    · exact h1.met h

/-- Of ways between nodes. -/
inductive Wy (n : Nat) (rows : List (List (Int × Int))) (a : Nat) : Nat → Prop
  | refl : Wy n rows a a
  | step (b : Nat) (e : Int × Int) (hb : Wy n rows a b) (he : e ∈ rows.getD b []) (hn : nodeB n e.1 = true) : Wy n rows a e.1.toNat
theorem Wy.head {n : Nat} {rows : List (List (Int × Int))} {a : Nat} {e : Int × Int} (he : e ∈ rows.getD a []) (hn : nodeB n e.1 = true) {b : Nat} (h : Wy n rows e.1.toNat b) : Wy n rows a b := by
  induction h with
  | refl => exact .step _ e .refl he hn
  | step c e' _ he' hn' ih => exact .step c e' ih he' hn'
theorem Wy.dual {n : Nat} {rows rows' : List (List (Int × Int))} (hd : ∀ x e, e ∈ rows.getD x [] → nodeB n e.1 = true → nodeB n (x : Int) = true ∧ ∃ e' ∈ rows'.getD e.1.toNat [], e'.1 = (x : Int)) {a b : Nat} (h : Wy n rows a b) : Wy n rows' b a := by
  induction h with
  | refl => exact .refl
  | step b e _ he hn ih =>
    obtain ⟨hb, e', he', h1⟩ := hd b e he hn
    exact Wy.head (e := e') he' (by rw [h1]; exact hb) (by rw [h1, Int.toNat_natCast]; exact ih)
theorem rch_wy {n : Nat} {rows : List (List (Int × Int))} {a b : Nat} (ha : nodeB n (a : Int) = true) : Rch n rows [(a : Int)] b ↔ Wy n rows a b := by
  constructor
  · intro h
    induction h with
    | start z hz _ =>
      simp only [List.mem_cons, List.not_mem_nil, or_false] at hz
      subst hz
      rw [Int.toNat_natCast]; exact .refl
    | step c e _ he hn ih => exact .step c e ih he hn
  · intro h
    induction h with
    | refl =>
      have := Rch.start (n := n) (rows := rows) (starts := [(a : Int)]) (a : Int) (by simp) ha
      rwa [Int.toNat_natCast] at this
    | step c e _ he hn ih => exact .step c e ih he hn
theorem row_node {rows : List (List (Int × Int))} {x : Nat} {e : Int × Int} (h : e ∈ rows.getD x []) : nodeB rows.length (x : Int) = true := by
  have hx : x < rows.length := by
    rcases Nat.lt_or_ge x rows.length with hlt | hge
    · exact hlt
    · have : rows.getD x [] = [] := by simp [List.getD, List.getElem?_eq_none hge]
      rw [this] at h; simp at h
  exact decide_eq_true ⟨by omega, by omega⟩
theorem leadTo_has {rows : List (List (Int × Int))} : ∀ {k x : Nat} {e : Int × Int}, x < k → e ∈ rows.getD x [] → nodeB rows.length e.1 = true → (x, e) ∈ leadTo rows k
  | 0, _, _, h, _, _ => absurd h (Nat.not_lt_zero _)
  | k + 1, x, e, h, he, hn => by
    rw [leadTo]
    by_cases h1 : x < k
    · exact List.mem_append_left _ (leadTo_has h1 he hn)
    · obtain rfl : x = k := by omega
      refine List.mem_append_right _ ?_
      unfold rowL
      exact List.mem_map.2 ⟨e, List.mem_filter.2 ⟨he, hn⟩, rfl⟩
theorem turn_has {rows : List (List (Int × Int))} {x : Nat} {e : Int × Int} (he : e ∈ rows.getD x []) (hn : nodeB rows.length e.1 = true) : ∃ e' ∈ (turnR rows).getD e.1.toNat [], e'.1 = (x : Int) := by
  have hx := row_node he
  unfold nodeB at hx hn
  have h1 := of_decide_eq_true hx
  have h2 := of_decide_eq_true hn
  have e0 : (turnR rows).getD e.1.toNat [] = turnL (leadTo rows rows.length) e.1.toNat := by simp [turnR, List.getD, show e.1.toNat < rows.length by omega]
  rw [e0]
  refine ⟨((x : Int), e.2), ?_, rfl⟩
  unfold turnL
  exact List.mem_map.2 ⟨(x, e), List.mem_filter.2 ⟨leadTo_has (by omega) he hn, by simp; omega⟩, rfl⟩
/-- One node is reached from another just if that is reached from this in the turned graph. -/
theorem seen_dual {rows : List (List (Int × Int))} {a b : Nat} (ha : a < rows.length) (hb : b < rows.length) : metB (seen rows.length rows [(a : Int)]) b = metB (seen rows.length (turnR rows) [(b : Int)]) a := by
  have na : nodeB rows.length (a : Int) = true := decide_eq_true ⟨by omega, by omega⟩
  have nb : nodeB rows.length (b : Int) = true := decide_eq_true ⟨by omega, by omega⟩
  rw [Bool.eq_iff_iff, seen_iff, seen_iff, rch_wy na, rch_wy nb]
  constructor
  · exact Wy.dual (fun x e he hn => ⟨row_node he, turn_has he hn⟩)
  · refine Wy.dual (fun x e he hn => ?_)
    obtain ⟨c, hc, e', he', h1⟩ := turn_mem he
    have hx := row_node he
    rw [turnR_len] at hx
    exact ⟨hx, e', by rw [hc, Int.toNat_natCast]; exact he', h1⟩

theorem endZ_of {goal : List Bool} : ∀ {tr : List (Nat × Int)}, goalB goal tr = true → endZ goal tr ≠ -1
  | [], h => by cases h
  | x :: l, h => by
    rw [endZ]
    by_cases h1 : goal.getD x.1 false = true
    · rw [if_pos h1]
      by_cases h2 : endZ goal l = -1
      · rw [if_pos h2]; omega
      · rw [if_neg h2]; exact h2
    · rw [if_neg h1]
      refine endZ_of ?_
      unfold goalB at h ⊢
      rw [List.any_cons, show goal.getD x.1 false = false by simpa using h1, Bool.false_or] at h
      exact h
theorem rch_sub {n : Nat} {rows rows' : List (List (Int × Int))} {s s' : List Int} (hs : ∀ z ∈ s, z ∈ s') (he : ∀ a e, e ∈ rows.getD a [] → nodeB n e.1 = true → ∃ e' ∈ rows'.getD a [], e'.1 = e.1) {k : Nat} (h : Rch n rows s k) : Rch n rows' s' k := by
  induction h with
  | start z hz hn => exact .start z (hs z hz) hn
  | step a e _ hee hn ih =>
    obtain ⟨e', h1, h2⟩ := he a e hee hn
    have := Rch.step a e' ih h1 (by rw [h2]; exact hn)
    rwa [h2] at this
theorem turn2_has {rows : List (List (Int × Int))} {a : Nat} {e : Int × Int} (h : e ∈ rows.getD a []) (hn : nodeB rows.length e.1 = true) : ∃ e' ∈ (turnR (turnR rows)).getD a [], e'.1 = e.1 := by
  obtain ⟨e1, he1, h1⟩ := turn_has h hn
  have hx := row_node h
  obtain ⟨e2, he2, h2⟩ := turn_has he1 (by rw [turnR_len, h1]; exact hx)
  rw [h1, Int.toNat_natCast] at he2
  exact ⟨e2, he2, by rw [h2, node_cast hn]⟩
/-- A path is told just if a goal is reached. -/
theorem path_iff {rows : List (List (Int × Int))} {from_ : List Int} {goal : List Bool} : pathL rows from_ goal ≠ [] ↔ ∃ k, goal.getD k false = true ∧ Rch rows.length rows from_ k := by
  have hL : pathL rows from_ goal = (wayF (pathTr rows from_ goal) (pathTr rows from_ goal).length (endZ goal (pathTr rows from_ goal))).reverse := rfl
  constructor
  · intro h
    have hz : endZ goal (pathTr rows from_ goal) ≠ -1 := fun e => h (by rw [hL, e, wayF_end]; rfl)
    have hg := endZ_goal hz
    rcases endZ_in goal (pathTr rows from_ goal) with h1 | ⟨i, hi, _, h1⟩
    · exact absurd h1 hz
    · refine ⟨((pathTr rows from_ goal).getD i (0, 0)).1, ?_, ?_⟩
      · rw [h1, Int.toNat_natCast] at hg; exact hg
      · have := sea_rch (x := (pathTr rows from_ goal).getD i (0, 0)) (by exact getD_mem hi)
        refine rch_sub (fun z hz => List.mem_mergeSort.1 hz) (fun a e he _ => turn2_mem he) this
  · rintro ⟨k, hg, hr⟩ h
    have hz : endZ goal (pathTr rows from_ goal) ≠ -1 := by
      refine endZ_of ?_
      have hr2 : Rch rows.length (turnR (turnR rows)) (from_.mergeSort fun x y => decide (x ≤ y)) k := rch_sub (fun z hz => List.mem_mergeSort.2 hz) (fun a e he hn => turn2_has he hn) hr
      rcases seaF_full (go := goP goal) (a := -1) (starts := from_.mergeSort fun x y => decide (x ≤ y)) (rows := turnR (turnR rows)) (f := rows.length + 1) (row := edgesF (from_.mergeSort fun x y => decide (x ≤ y))) (TrOk.nil rows.length) (Nat.zero_le _) (by omega) (fun z hz _ => .inr (edgesF_cov hz)) (fun i hi => absurd hi (Nat.not_lt_zero _)) with h1 | h1
      · have h2 : (!goalB goal (pathTr rows from_ goal)) = false := h1
        simpa using h2
      · have hm := h1.met hr2
        obtain ⟨x, hx, rfl⟩ := List.mem_map.1 (metB_iff.1 hm)
        unfold goalB
        rw [List.any_eq_true]
        exact ⟨x, hx, hg⟩
    have hlen : pathTr rows from_ goal ≠ [] := fun e => hz (by rw [e]; rfl)
    obtain ⟨f, hf⟩ : ∃ f, (pathTr rows from_ goal).length = f + 1 := ⟨(pathTr rows from_ goal).length - 1, by have := List.length_pos_iff.2 hlen; omega⟩
    rw [hL, hf, wayF_next hz] at h
    simp at h
end Go.Proofs.Ytjgifbcjokeigaa
