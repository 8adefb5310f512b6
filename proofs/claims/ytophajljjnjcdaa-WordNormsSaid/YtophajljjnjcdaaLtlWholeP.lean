/- Formulas, plain: what the parts of a formula are; what its negation is. Nothing here speaks of the program. -/
import Derived.Test.YtophajljjnjcdaaLtlParts
namespace Go.Proofs.Ytophajljjnjcdaa.lt

theorem Pt.none {out : List Int} {i : Nat} (h : Pt out i []) : i = 0 := by
  rcases i with _ | i
  · rfl
  · obtain ⟨s, st', e, _⟩ := h.pos
    simp at e
/-- The parts of a node, one by one. -/
theorem whole_of {e : List (Int × Int)} (h : wrF 0 e = 0) {i : Nat} (hi : i < e.length) :
    (kidsF e i = (-1, -1) ∧ (outF e e.length).getD i 0 = (i : Int)) ∨
    (∃ j v : Nat, i = j + 1 ∧ v ≤ j ∧ kidsF e i = ((j : Int), -1) ∧ (outF e e.length).getD i 0 = (v : Int) ∧ (outF e e.length).getD j 0 = (v : Int)) ∨
    (∃ j q v : Nat, i = j + 1 ∧ q < j ∧ v ≤ q ∧ kidsF e i = ((q : Int), (j : Int)) ∧ (outF e e.length).getD i 0 = (v : Int) ∧ (outF e e.length).getD q 0 = (v : Int) ∧ (outF e e.length).getD j 0 = ((q + 1 : Nat) : Int)) := by
  obtain ⟨st, h1, h2⟩ := Ok.of_is h i (by omega)
  have h3 := ndW_ok (h2 hi)
  have hr := kT_range (e.getD i (0, 0)).1
  obtain ⟨t, ht⟩ : ∃ t : Nat, kT (e.getD i (0, 0)).1 = t := ⟨(kT (e.getD i (0, 0)).1).toNat, by omega⟩
  have hk : kidsF e i = prt e i := by
    rw [kidsF_is h]
    unfold kidsK
    rw [if_pos ⟨by omega, by omega⟩]
    simp
  have hs : (outF e e.length).getD i 0 = bgn (outF e i) i t := by rw [outF_at e hi, ht]; rfl
  obtain ⟨s, s1, s2, s3, s4, s5, s6⟩ := h1.1.takes (t := t) (by omega) (by omega)
  rw [hk, hs, s2]
  unfold prt
  by_cases h0 : t = 0
  · refine .inl ⟨by rw [if_neg (by omega), if_neg (by omega)], ?_⟩
    rw [s4 h0]
  · by_cases h1' : t = 1
    · obtain ⟨g1, g2, _, g4⟩ := s5 h1'
      refine .inr (.inl ⟨i - 1, s, by omega, by omega, ?_, rfl, ?_⟩)
      · rw [if_pos (by omega)]
        congr 1
        omega
      · rw [outF_take e (show i - 1 < i by omega) (by omega), g4]
    · obtain ⟨r, r1, r2, r3, _, r5, r6⟩ := s6 (by omega)
      refine .inr (.inr ⟨i - 1, r - 1, s, by omega, by omega, by omega, ?_, rfl, ?_, ?_⟩)
      · rw [if_neg (by omega), if_pos (by omega), outF_take e (show i - 1 < i by omega) (by omega), r5]
        congr 1
        · omega
        · omega
      · rw [outF_take e (show r - 1 < i by omega) (by omega), r6]
      · rw [outF_take e (show i - 1 < i by omega) (by omega), r5]
        omega
/-- The last node's part is the whole. -/
theorem whole_last {e : List (Int × Int)} (h : wrF 0 e = 0) : 0 < e.length ∧ (outF e e.length).getD (e.length - 1) 0 = 0 := by
  obtain ⟨st, h1, _⟩ := Ok.of_is h e.length (Nat.le_refl _)
  have h2 := h1.2
  rw [h, wr_end (Nat.le_refl _)] at h2
  have hl : st.length = 1 := by
    by_cases h0 : st.length = 0
    · rw [if_pos h0] at h2; cases h2
    · rw [if_neg h0] at h2
      by_cases h3 : 1 < st.length
      · rw [if_pos h3] at h2; cases h2
      · omega
  have hpos : 0 < e.length := by
    rcases Nat.eq_zero_or_pos e.length with h0 | h0
    · have := h1.1.len
      omega
    · exact h0
  refine ⟨hpos, ?_⟩
  obtain ⟨j, hj⟩ : ∃ j, e.length = j + 1 := ⟨e.length - 1, by omega⟩
  have h3 := h1.1
  rw [hj] at h3 ⊢
  obtain ⟨s, st', e1, _, _, g3, g4⟩ := h3.pos
  have hn : st' = [] := by
    apply List.eq_nil_of_length_eq_zero
    rw [e1] at hl
    simpa using hl
  subst hn
  rw [Nat.add_sub_cancel, g3, g4.none]
  rfl

theorem wr_not : ∀ (e : List (Int × Int)) (n : Nat), wrF n e = 0 → wrF n (e ++ [(4, 0)]) = 0
  | [], n, h => by
    unfold wrF at h
    have h1 : n = 1 := by
      by_cases h0 : n = 0
      · rw [if_pos h0] at h; cases h
      · rw [if_neg h0] at h
        by_cases h3 : 1 < n
        · rw [if_pos h3] at h; cases h
        · omega
    subst h1
    decide
  | x :: e, n, h => by
    rw [List.cons_append]
    unfold wrF at h ⊢
    by_cases h0 : ndW n x ≠ 0
    · rw [if_pos h0] at h
      exact absurd h h0
    · rw [if_neg h0] at h ⊢
      exact wr_not e _ h
theorem getD_app {e : List (Int × Int)} {x : Int × Int} {k : Nat} (hk : k < e.length) : (e ++ [x]).getD k (0, 0) = e.getD k (0, 0) := by simp [List.getD, List.getElem?_append_left hk]
theorem getD_last (e : List (Int × Int)) (x : Int × Int) : (e ++ [x]).getD e.length (0, 0) = x := by simp [List.getD]
theorem prK_succ (e : List (Int × Int)) (k : Nat) : prK e (k + 1) = prK e k ||| pn (e.getD k (0, 0)) := rfl
theorem utK_succ (e : List (Int × Int)) (k : Nat) : utK e (k + 1) = if (e.getD k (0, 0)).1 = 9 then utK e k ++ [(k : Int)] else utK e k := rfl
theorem prK_app {e : List (Int × Int)} {x : Int × Int} : ∀ {k : Nat}, k ≤ e.length → prK (e ++ [x]) k = prK e k
  | 0, _ => rfl
  | k + 1, hk => by
    unfold prK
    rw [prK_app (by omega), getD_app (by omega)]
theorem utK_app {e : List (Int × Int)} {x : Int × Int} : ∀ {k : Nat}, k ≤ e.length → utK (e ++ [x]) k = utK e k
  | 0, _ => rfl
  | k + 1, hk => by
    unfold utK
    rw [utK_app (by omega), getD_app (by omega)]
theorem not_is {e : List (Int × Int)} (h : isF e = true) : isF (e ++ [(4, 0)]) = true := isF_iff.2 (wr_not e 0 (isF_iff.1 h))
theorem not_props {e : List (Int × Int)} (h : isF e = true) : propsF (e ++ [(4, 0)]) = propsF e := by
  unfold propsF
  rw [if_pos h, if_pos (not_is h), List.length_append]
  show prK _ (e.length + 1) = _
  rw [prK_succ, prK_app (Nat.le_refl _), getD_last]
  exact Nat.or_zero _
theorem not_untils {e : List (Int × Int)} (h : isF e = true) : untilsF (e ++ [(4, 0)]) = untilsF e := by
  unfold untilsF
  rw [if_pos h, if_pos (not_is h), List.length_append]
  show utK _ (e.length + 1) = _
  rw [utK_succ, utK_app (Nat.le_refl _), getD_last, if_neg (by decide)]
theorem not_next {e : List (Int × Int)} (h : isF e = true) : nextF (e ++ [(4, 0)]) = nextF e := by
  unfold nextF nxK
  rw [h, not_is h, List.take_length, List.take_length, List.any_append]
  simp
theorem not_kids {e : List (Int × Int)} (h : isF e = true) : kidsF (e ++ [(4, 0)]) e.length = ((e.length : Int) - 1, -1) := by
  unfold kidsF
  have e1 : ((e.length : Nat) : Int).toNat = e.length := Int.toNat_natCast _
  rw [e1, getD_last, if_pos ⟨not_is h, by omega, by rw [List.length_append]; simp; omega, by decide⟩, if_pos (by decide)]
end Go.Proofs.Ytophajljjnjcdaa.lt
