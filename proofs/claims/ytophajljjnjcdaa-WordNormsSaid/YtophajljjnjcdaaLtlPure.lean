/- Formulas as lists of nodes, plain: what is wrong with them, where their parts begin and end. Nothing here speaks of the program. -/
namespace Go.Proofs.Ytophajljjnjcdaa.lt

/-- How many parts an operation takes; -1: it is none. -/
def kT (op : Int) : Int := if op = 1 ∨ op = 2 ∨ op = 3 then 0 else if op = 4 ∨ op = 8 ∨ op = 11 ∨ op = 12 then 1 else if op = 5 ∨ op = 6 ∨ op = 7 ∨ op = 9 ∨ op = 10 then 2 else -1
theorem kT_range (op : Int) : kT op = -1 ∨ kT op = 0 ∨ kT op = 1 ∨ kT op = 2 := by unfold kT; split <;> (try split) <;> (try split) <;> simp
theorem kT_cases (op : Int) : (kT op = 0 ∧ (op = 1 ∨ op = 2 ∨ op = 3)) ∨ (kT op = 1 ∧ (op = 4 ∨ op = 8 ∨ op = 11 ∨ op = 12)) ∨ (kT op = 2 ∧ (op = 5 ∨ op = 6 ∨ op = 7 ∨ op = 9 ∨ op = 10)) ∨ (kT op = -1 ∧ ¬ (1 ≤ op ∧ op ≤ 12)) := by
  unfold kT
  split
  · exact .inl ⟨rfl, ‹_›⟩
  · split
    · exact .inr (.inl ⟨rfl, ‹_›⟩)
    · split
      · exact .inr (.inr (.inl ⟨rfl, ‹_›⟩))
      · exact .inr (.inr (.inr ⟨rfl, by omega⟩))

/-- What is wrong with a node ahead of which n parts stand. -/
def ndW (n : Nat) (x : Int × Int) : Int := if kT x.1 < 0 then 3 else if (n : Int) < kT x.1 then 4 else if x.1 = 3 ∧ (x.2 < 0 ∨ 8 ≤ x.2) then 10 else 0
/-- What is wrong with nodes ahead of which n parts stand. -/
def wrF : Nat → List (Int × Int) → Int
  | n, [] => if n = 0 then 4 else if 1 < n then 5 else 0
  | n, x :: e => if ndW n x ≠ 0 then ndW n x else wrF (n - (kT x.1).toNat + 1) e
/-- Is it a formula, however long? -/
def isF (e : List (Int × Int)) : Bool := decide (wrF 0 e = 0)
theorem isF_iff {e : List (Int × Int)} : isF e = true ↔ wrF 0 e = 0 := by simp [isF]

theorem drop_nd {e : List (Int × Int)} {k : Nat} (h : k < e.length) : e.drop k = e.getD k (0, 0) :: e.drop (k + 1) := by
  rw [List.drop_eq_getElem_cons h]
  simp [List.getD, h]
theorem wr_stop {e : List (Int × Int)} {k n : Nat} (hk : k < e.length) (h : ndW n (e.getD k (0, 0)) ≠ 0) : wrF n (e.drop k) = ndW n (e.getD k (0, 0)) := by
  rw [drop_nd hk, wrF, if_pos h]
theorem wr_next {e : List (Int × Int)} {k n : Nat} (hk : k < e.length) (h : ndW n (e.getD k (0, 0)) = 0) : wrF n (e.drop k) = wrF (n - (kT (e.getD k (0, 0)).1).toNat + 1) (e.drop (k + 1)) := by
  rw [drop_nd hk, wrF, if_neg (by omega)]
theorem wr_end {e : List (Int × Int)} {k n : Nat} (hk : e.length ≤ k) : wrF n (e.drop k) = if n = 0 then 4 else if 1 < n then 5 else 0 := by
  rw [List.drop_of_length_le hk, wrF]
theorem ndW_ok {n : Nat} {x : Int × Int} (h : ndW n x = 0) : 0 ≤ kT x.1 ∧ kT x.1 ≤ n ∧ (x.1 = 3 → 0 ≤ x.2 ∧ x.2 < 8) := by
  unfold ndW at h
  split at h
  · cases h
  · split at h
    · cases h
    · split at h
      · cases h
      · exact ⟨by omega, by omega, fun h3 => by omega⟩
theorem ndW_range (n : Nat) (x : Int × Int) : ndW n x = 0 ∨ ndW n x = 3 ∨ ndW n x = 4 ∨ ndW n x = 10 := by unfold ndW; split <;> (try split) <;> (try split) <;> simp
theorem wrF_range : ∀ (e : List (Int × Int)) (n : Nat), wrF n e = 0 ∨ wrF n e = 3 ∨ wrF n e = 4 ∨ wrF n e = 5 ∨ wrF n e = 10
  | [], n => by unfold wrF; split <;> (try split) <;> simp
  | x :: e, n => by
    unfold wrF
    have := ndW_range n x
    have := wrF_range e (n - (kT x.1).toNat + 1)
    split <;> omega

/-- The numbers of the parts (their last nodes) that the first i nodes are, side by side; out: where parts begin. -/
inductive Pt (out : List Int) : Nat → List Int → Prop
  | nil : Pt out 0 []
  | snoc (i s : Nat) (st : List Int) : s ≤ i → i < out.length → out.getD i 0 = (s : Int) → Pt out s st → Pt out (i + 1) (st ++ [(i : Int)])
theorem Pt.zero {out : List Int} {st : List Int} (h : Pt out 0 st) : st = [] := by cases h with | nil => rfl
theorem Pt.le {out : List Int} {i : Nat} {st : List Int} (h : Pt out i st) : i ≤ out.length := by
  cases h with
  | nil => exact Nat.zero_le _
  | snoc i s st _ h2 _ _ => exact h2
theorem Pt.len {out : List Int} {i : Nat} {st : List Int} (h : Pt out i st) : st.length ≤ i := by
  induction h with
  | nil => exact Nat.zero_le _
  | snoc i s st h1 h2 h3 h4 ih => simp; omega
theorem Pt.pos {out : List Int} {i : Nat} {st : List Int} (h : Pt out (i + 1) st) : ∃ (s : Nat) (st' : List Int), st = st' ++ [(i : Int)] ∧ s ≤ i ∧ i < out.length ∧ out.getD i 0 = (s : Int) ∧ Pt out s st' := by
  cases h with
  | snoc _ s st h1 h2 h3 h4 => exact ⟨s, st, rfl, h1, h2, h3, h4⟩
theorem Pt.more {out : List Int} {i : Nat} {st : List Int} (h : Pt out i st) (x : Int) : Pt (out ++ [x]) i st := by
  induction h with
  | nil => exact .nil
  | snoc i s st h1 h2 h3 _ ih =>
    refine .snoc i s st h1 (by simp; omega) ?_ ih
    rw [← h3]
    simp [List.getD, List.getElem?_append_left h2]
theorem Pt.uniq {out : List Int} {i : Nat} {st st2 : List Int} (h : Pt out i st) (h2 : Pt out i st2) : st = st2 := by
  induction h generalizing st2 with
  | nil => exact h2.zero.symm
  | snoc i s st h1 h2' h3 _ ih =>
    obtain ⟨s2, st', rfl, g1, g2, g3, g4⟩ := h2.pos
    have : s = s2 := by rw [h3] at g3; omega
    subst this
    rw [ih g4]

/-- The beginning of the part of a node that takes t parts, if i nodes stand ahead of it. -/
def bgn (out : List Int) (k t : Nat) : Int := if t = 0 then k else if t = 1 then out.getD (k - 1) 0 else out.getD ((out.getD (k - 1) 0).toNat - 1) 0
/-- The beginnings of the parts of the first k nodes. -/
def outF (e : List (Int × Int)) : Nat → List Int
  | 0 => []
  | k + 1 => outF e k ++ [bgn (outF e k) k (kT (e.getD k (0, 0)).1).toNat]
theorem outF_len (e : List (Int × Int)) : ∀ k, (outF e k).length = k
  | 0 => rfl
  | k + 1 => by simp [outF, outF_len e k]
theorem outF_succ (e : List (Int × Int)) (k : Nat) : outF e (k + 1) = outF e k ++ [bgn (outF e k) k (kT (e.getD k (0, 0)).1).toNat] := rfl
theorem outF_at (e : List (Int × Int)) : ∀ {k j : Nat}, j < k → (outF e k).getD j 0 = bgn (outF e j) j (kT (e.getD j (0, 0)).1).toNat
  | 0, j, h => by omega
  | k + 1, j, h => by
    rw [outF_succ]
    by_cases hj : j = k
    · subst hj
      simp [List.getD, outF_len]
    · have hlt : j < (outF e k).length := by rw [outF_len]; omega
      rw [← outF_at e (show j < k by omega)]
      simp [List.getD, List.getElem?_append_left hlt]
theorem outF_take (e : List (Int × Int)) {k j i : Nat} (h : i < j) (hj : j ≤ k) : (outF e k).getD i 0 = (outF e j).getD i 0 := by rw [outF_at e (show i < k by omega), outF_at e h]

/-- What is dropped of the parts' numbers, and what is left, when a node takes t of them. -/
theorem Pt.takes {out : List Int} {k t : Nat} {st : List Int} (h : Pt out k st) (ht : t ≤ st.length) (ht2 : t ≤ 2) :
    ∃ s : Nat, s ≤ k ∧ bgn out k t = (s : Int) ∧ Pt out s (st.take (st.length - t)) ∧ (t = 0 → s = k) ∧ (t = 1 → 1 ≤ k ∧ s < k ∧ st.drop (st.length - t) = [((k - 1 : Nat) : Int)] ∧ out.getD (k - 1) 0 = (s : Int)) ∧
      (t = 2 → ∃ r : Nat, 1 ≤ r ∧ r < k ∧ s < r ∧ st.drop (st.length - t) = [((r - 1 : Nat) : Int), ((k - 1 : Nat) : Int)] ∧ out.getD (k - 1) 0 = (r : Int) ∧ out.getD (r - 1) 0 = (s : Int)) := by
  rcases Nat.eq_zero_or_pos t with h0 | h0
  · subst h0
    exact ⟨k, Nat.le_refl _, by simp [bgn], by rw [Nat.sub_zero, List.take_length]; exact h, fun _ => rfl, fun h => by omega, fun h => by omega⟩
  · obtain ⟨i, rfl⟩ : ∃ i, k = i + 1 := by
      rcases k with _ | i
      · have := h.zero; subst this; simp at ht; omega
      · exact ⟨i, rfl⟩
    obtain ⟨r, st', rfl, g1, g2, g3, g4⟩ := h.pos
    by_cases h1 : t = 1
    · subst h1
      refine ⟨r, by omega, by simp [bgn]; exact g3, ?_, fun h => by omega, fun _ => ⟨by omega, by omega, ?_, by simpa using g3⟩, fun h => by omega⟩
      · simp
        exact g4
      · simp
    · obtain rfl : t = 2 := by omega
      obtain ⟨j, rfl⟩ : ∃ j, r = j + 1 := by
        rcases r with _ | j
        · have := g4.zero; subst this; simp at ht
        · exact ⟨j, rfl⟩
      obtain ⟨s, st'', rfl, q1, q2, q3, q4⟩ := g4.pos
      refine ⟨s, by omega, ?_, ?_, fun h => by omega, fun h => by omega, fun _ => ⟨j + 1, by omega, by omega, by omega, ?_, by simpa using g3, by simpa using q3⟩⟩
      · have e2 : (out.getD (i + 1 - 1) 0).toNat = j + 1 := by rw [Nat.add_sub_cancel, g3]; rfl
        unfold bgn
        rw [if_neg (by omega), if_neg (by omega), e2, Nat.add_sub_cancel, q3]
      · have e1 : (st'' ++ [(j : Int)] ++ [(i : Int)]).length - 2 = st''.length := by simp
        rw [e1, List.append_assoc, List.take_left']
        · exact q4
        · rfl
      · have e1 : (st'' ++ [(j : Int)] ++ [(i : Int)]).length - 2 = st''.length := by simp
        rw [e1, List.append_assoc, List.drop_left']
        · simp
        · rfl
/-- The parts' numbers after one node more. -/
theorem Pt.next {e : List (Int × Int)} {k : Nat} {st : List Int} (h : Pt (outF e k) k st) (hn : ndW st.length (e.getD k (0, 0)) = 0) :
    Pt (outF e (k + 1)) (k + 1) (st.take (st.length - (kT (e.getD k (0, 0)).1).toNat) ++ [(k : Int)]) := by
  obtain ⟨h1, h2, _⟩ := ndW_ok hn
  have hr := kT_range (e.getD k (0, 0)).1
  obtain ⟨s, s1, s2, s3, _⟩ := h.takes (t := (kT (e.getD k (0, 0)).1).toNat) (by omega) (by omega)
  unfold outF
  refine .snoc k s _ s1 (by simp [outF_len]) ?_ (s3.more _)
  rw [← s2]
  simp [List.getD, outF_len]

/-- After the first k nodes of a formula's beginning: the parts' numbers. -/
def Ok (e : List (Int × Int)) (k : Nat) (st : List Int) : Prop := Pt (outF e k) k st ∧ wrF 0 e = wrF st.length (e.drop k)
theorem Ok.zero (e : List (Int × Int)) : Ok e 0 [] := ⟨.nil, by simp⟩
theorem Ok.next {e : List (Int × Int)} {k : Nat} {st : List Int} (h : Ok e k st) (hk : k < e.length) (hn : ndW st.length (e.getD k (0, 0)) = 0) :
    Ok e (k + 1) (st.take (st.length - (kT (e.getD k (0, 0)).1).toNat) ++ [(k : Int)]) := by
  refine ⟨h.1.next hn, ?_⟩
  rw [h.2, wr_next hk hn]
  congr 1
  have := ndW_ok hn
  simp
/-- A formula's beginnings: after all nodes one part is left. -/
theorem Ok.of_is {e : List (Int × Int)} (h : wrF 0 e = 0) : ∀ k, k ≤ e.length → ∃ st, Ok e k st ∧ (k < e.length → ndW st.length (e.getD k (0, 0)) = 0)
  | 0, _ => by
    refine ⟨[], Ok.zero e, fun hk => ?_⟩
    by_cases hn : ndW 0 (e.getD 0 (0, 0)) = 0
    · exact hn
    · have := wr_stop hk hn
      rw [List.drop_zero, h] at this
      exact absurd this.symm hn
  | k + 1, hk => by
    obtain ⟨st, h1, h2⟩ := Ok.of_is h k (by omega)
    have h3 := h1.next (by omega) (h2 (by omega))
    refine ⟨_, h3, fun hk2 => ?_⟩
    by_cases hn : ndW (st.take (st.length - (kT (e.getD k (0, 0)).1).toNat) ++ [(k : Int)]).length (e.getD (k + 1) (0, 0)) = 0
    · exact hn
    · have := wr_stop hk2 hn
      rw [← h3.2, h] at this
      exact absurd this.symm hn
theorem Ok.uniq {e : List (Int × Int)} {k : Nat} {st st2 : List Int} (h : Ok e k st) (h2 : Ok e k st2) : st = st2 := h.1.uniq h2.1

/-- The parts of a node. -/
def kidsF (e : List (Int × Int)) (at_ : Int) : Int × Int :=
  if isF e = true ∧ 0 ≤ at_ ∧ at_ < e.length ∧ kT (e.getD at_.toNat (0, 0)).1 ≠ 0 then
    if kT (e.getD at_.toNat (0, 0)).1 = 1 then (at_ - 1, -1) else ((outF e e.length).getD (at_ - 1).toNat 0 - 1, at_ - 1)
  else (-1, -1)
def spansL (e : List (Int × Int)) : List Int := if isF e = true then outF e e.length else []
end Go.Proofs.Ytophajljjnjcdaa.lt
