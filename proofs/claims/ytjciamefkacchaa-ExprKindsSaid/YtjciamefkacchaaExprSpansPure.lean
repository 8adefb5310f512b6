/- Spans, plain: where parts begin, by a stack of beginnings and by going back. Nothing here speaks of the program. -/
import Derived.Test.YtjciamefkacchaaExprPure
namespace Go.Proofs.Ytjciamefkacchaa

/-- Where the part of node number k begins, its stack being st. -/
def spF (k : Nat) (_ : Int × Int) (ps : List Int) : Int × Int := (if 0 < ps.length then ps.getD 0 0 else (k : Int), 0)
/-- The beginnings told so far, and the stack of the parts' beginnings: after the first k nodes. -/
structure Sp where
  out : List Int
  st : List Int
/-- st is the beginnings of the parts side by side that the first i nodes are. -/
inductive Ch (out : List Int) : Nat → List Int → Prop
  | nil : Ch out 0 []
  | snoc (i s : Nat) (st : List Int) : s < i → i ≤ out.length → out.getD (i - 1) 0 = (s : Int) → Ch out s st → Ch out i (st ++ [(s : Int)])

theorem Ch.le {out : List Int} {i : Nat} {st : List Int} (h : Ch out i st) : i ≤ out.length := by
  cases h with
  | nil => exact Nat.zero_le _
  | snoc _ s st h1 h2 _ _ => exact h2
theorem Ch.more {out : List Int} {i : Nat} {st : List Int} (h : Ch out i st) (x : Int) : Ch (out ++ [x]) i st := by
  induction h with
  | nil => exact .nil
  | snoc i s st h1 h2 h3 _ ih =>
    refine .snoc i s st h1 (by simp; omega) ?_ ih
    rw [← h3]
    have : i - 1 < out.length := by omega
    simp [List.getD, List.getElem?_append_left this]
theorem Ch.zero {out : List Int} {st : List Int} (h : Ch out 0 st) : st = [] := by
  cases h with
  | nil => rfl
  | snoc _ s st h1 _ _ _ => omega
theorem Ch.pos {out : List Int} {i : Nat} {st : List Int} (h : Ch out i st) (hi : 0 < i) : ∃ (s : Nat) (st' : List Int), st = st' ++ [(s : Int)] ∧ s < i ∧ out.getD (i - 1) 0 = s ∧ Ch out s st' := by
  cases h with
  | nil => omega
  | snoc _ s st h1 h2 h3 h4 => exact ⟨s, st, rfl, h1, h3, h4⟩
/-- Going back over m parts: from the end of node number i on. -/
theorem Ch.back {out : List Int} : ∀ {m i : Nat} {st : List Int}, Ch out i st → m ≤ st.length → ∃ s : Nat, s ≤ i ∧ Ch out s (st.take (st.length - m)) ∧ (0 < m → st.getD (st.length - m) 0 = (s : Int)) ∧ (m = 0 → s = i)
  | 0, i, st, h, _ => ⟨i, Nat.le_refl _, by rw [Nat.sub_zero, List.take_length]; exact h, fun h => by omega, fun _ => rfl⟩
  | m + 1, i, st, h, hm => by
    have hi : 0 < i := by
      rcases Nat.eq_zero_or_pos i with h0 | h0
      · subst h0
        rw [h.zero] at hm
        simp at hm
      · exact h0
    obtain ⟨s, st', rfl, h1, h2, h3⟩ := h.pos hi
    obtain ⟨q, q1, q2, q3, q4⟩ := Ch.back (m := m) h3 (by simp at hm; omega)
    have hl : (st' ++ [(s : Int)]).length - (m + 1) = st'.length - m := by simp
    refine ⟨q, by omega, ?_, fun _ => ?_, fun h => by omega⟩
    · rw [hl, List.take_append_of_le_length (by omega)]
      exact q2
    · rw [hl]
      rcases Nat.eq_zero_or_pos m with h0 | h0
      · subst h0
        rw [q4 rfl, Nat.sub_zero]
        simp [List.getD]
      · have hlt : st'.length - m < st'.length := by simp at hm; omega
        rw [← q3 h0]
        simp [List.getD, List.getElem?_append_left hlt]
/-- One step back. -/
theorem Ch.step {out : List Int} {m i : Nat} {st : List Int} (h : Ch out i st) (hm : m < st.length) {s : Nat} (hs : Ch out s (st.take (st.length - m))) : 0 < s ∧ ∃ q : Nat, q < s ∧ out.getD (s - 1) 0 = (q : Int) ∧ st.getD (st.length - (m + 1)) 0 = (q : Int) ∧ Ch out q (st.take (st.length - (m + 1))) := by
  have hs0 : 0 < s := by
    rcases Nat.eq_zero_or_pos s with h0 | h0
    · subst h0
      have := congrArg List.length hs.zero
      simp at this
      omega
    · exact h0
  obtain ⟨q, st', e, h1, h2, h3⟩ := hs.pos hs0
  have hg : st.getD (st.length - (m + 1)) 0 = (q : Int) := by
    have hl : st'.length = st.length - (m + 1) := by
      have := congrArg List.length e
      simp at this
      omega
    have h5 : (st.take (st.length - m)).getD (st.length - (m + 1)) 0 = (st' ++ [(q : Int)]).getD (st.length - (m + 1)) 0 := by rw [e]
    rw [← hl] at h5 ⊢
    have h6 : (st.take (st.length - m)).getD st'.length 0 = st.getD st'.length 0 := by
      simp only [List.getD, List.getElem?_take]
      rw [if_pos (by omega)]
    rw [h6] at h5
    rw [h5]
    simp [List.getD]
  refine ⟨hs0, q, h1, h2, hg, ?_⟩
  have e2 : st' = st.take (st.length - (m + 1)) := by
    have h4 : (st.take (st.length - m)).take (st.length - (m + 1)) = (st' ++ [(q : Int)]).take (st.length - (m + 1)) := by rw [e]
    have hl : st'.length = st.length - (m + 1) := by
      have := congrArg List.length e
      simp at this
      omega
    rw [List.take_take, Nat.min_eq_left (by omega), ← hl, List.take_left'] at h4
    · rw [← hl]; exact h4.symm
    · rfl
  rw [← e2]
  exact h3
theorem Ch.stop {out : List Int} {st : List Int} {s : Nat} (hs : Ch out s (st.take (st.length - st.length))) : s = 0 := by
  rcases Nat.eq_zero_or_pos s with h0 | h0
  · exact h0
  · obtain ⟨q, st', e, _⟩ := hs.pos h0
    have := congrArg List.length e
    simp at this

/-- The state after the first k nodes, if none of them fails; failing is told by none. -/
def spAt (e : List (Int × Int)) : Nat → Option Sp
  | 0 => some ⟨[], []⟩
  | k + 1 => match spAt e k with
    | none => none
    | some S => if takesZ (e.getD k (0, 0)).1 < 0 ∨ (S.st.length : Int) < takesZ (e.getD k (0, 0)).1 then none else
      let t := (takesZ (e.getD k (0, 0)).1).toNat
      let s := if t = 0 then (k : Int) else S.st.getD (S.st.length - t) 0
      some ⟨S.out ++ [s], S.st.take (S.st.length - t) ++ [s]⟩
/-- The beginnings of all parts, if the nodes are one part. -/
def spansF (e : List (Int × Int)) : Option (List Int) := match spAt e e.length with
  | none => none
  | some S => if S.st.length = 1 then some S.out else none

theorem spAt_ok {e : List (Int × Int)} : ∀ {k : Nat} {S : Sp}, spAt e k = some S → S.out.length = k ∧ Ch S.out k S.st ∧ S.st.length ≤ k
  | 0, S, h => by
    injection h with h
    subst h
    exact ⟨rfl, .nil, Nat.le_refl _⟩
  | k + 1, S, h => by
    unfold spAt at h
    split at h
    · cases h
    · next S' hS' =>
      obtain ⟨h1, h2, h3⟩ := spAt_ok hS'
      split at h
      · cases h
      · next hc =>
        simp only [Option.some.injEq] at h
        subst h
        have hr := takesZ_range (e.getD k (0, 0)).1
        obtain ⟨t, ht⟩ : ∃ t : Nat, takesZ (e.getD k (0, 0)).1 = t := ⟨(takesZ (e.getD k (0, 0)).1).toNat, by omega⟩
        have htl : t ≤ S'.st.length := by omega
        simp only [ht, Int.toNat_natCast]
        obtain ⟨s, s1, s2, s3, s4⟩ := h2.back (m := t) htl
        have hs : (if t = 0 then (k : Int) else S'.st.getD (S'.st.length - t) 0) = (s : Int) := by
          by_cases h0 : t = 0
          · rw [if_pos h0, s4 h0]
          · rw [if_neg h0]; exact s3 (by omega)
        rw [hs]
        refine ⟨by simp [h1], ?_, by simp; omega⟩
        exact .snoc (k + 1) s _ (by omega) (by simp [h1]) (by simp [List.getD, h1]) (s2.more _)
theorem spAt_next {e : List (Int × Int)} {k t : Nat} {S : Sp} (h : spAt e k = some S) (ht : takesZ (e.getD k (0, 0)).1 = t) (hl : t ≤ S.st.length) :
    spAt e (k + 1) = some ⟨S.out ++ [(spF k (e.getD k (0, 0)) (S.st.drop (S.st.length - t))).1], S.st.take (S.st.length - t) ++ [(spF k (e.getD k (0, 0)) (S.st.drop (S.st.length - t))).1]⟩ := by
  have e1 : (spF k (e.getD k (0, 0)) (S.st.drop (S.st.length - t))).1 = if t = 0 then (k : Int) else S.st.getD (S.st.length - t) 0 := by
    unfold spF
    by_cases h0 : t = 0
    · subst h0; simp
    · rw [if_neg h0, if_pos (by simp; omega)]
      simp [List.getD]
  rw [e1]
  conv => lhs; unfold spAt
  rw [h]
  simp only [ht, Int.toNat_natCast]
  rw [if_neg (by omega)]
theorem spAt_stop {e : List (Int × Int)} {k : Nat} {S : Sp} (h : spAt e k = some S) (hc : takesZ (e.getD k (0, 0)).1 < 0 ∨ (S.st.length : Int) < takesZ (e.getD k (0, 0)).1) : spAt e (k + 1) = none := by
  unfold spAt
  rw [h]
  simp only [if_pos hc]
theorem spAt_none {e : List (Int × Int)} {k : Nat} (h : spAt e k = none) : ∀ j, k ≤ j → spAt e j = none
  | 0, hj => by obtain rfl : k = 0 := by omega
                exact h
  | j + 1, hj => by
    by_cases hk : k = j + 1
    · rw [← hk]; exact h
    · have := spAt_none h j (by omega)
      unfold spAt
      rw [this]

/-- Working off tells the same. -/
theorem run_spans {e : List (Int × Int)} : ∀ (n k : Nat) (S : Sp), n = e.length - k → k ≤ e.length → spAt e k = some S →
    (∃ x, runF spF e.length k (e.drop k) S.st = (x, 0) ∧ (spansF e).isSome = true) ∨ ((runF spF e.length k (e.drop k) S.st).2 ≠ 0 ∧ spansF e = none)
  | 0, k, S, hn, hk, hS => by
    obtain rfl : k = e.length := by omega
    rw [List.drop_length, runF_end]
    have hsp : spansF e = if S.st.length = 1 then some S.out else none := by unfold spansF; rw [hS]
    by_cases h0 : S.st.length = 0
    · right
      rw [if_pos h0, hsp, if_neg (by omega)]
      exact ⟨by decide, rfl⟩
    · by_cases h1 : 1 < S.st.length
      · right
        rw [if_neg h0, if_pos h1, hsp, if_neg (by omega)]
        exact ⟨by decide, rfl⟩
      · left
        rw [if_neg h0, if_neg h1, hsp, if_pos (by omega)]
        exact ⟨_, rfl, rfl⟩
  | n + 1, k, S, hn, hk, hS => by
    have hlt : k < e.length := by omega
    have hr := takesZ_range (e.getD k (0, 0)).1
    obtain ⟨o1, o2, o3⟩ := spAt_ok hS
    by_cases hneg : takesZ (e.getD k (0, 0)).1 < 0
    · right
      rw [run_form hlt hneg]
      refine ⟨by decide, ?_⟩
      unfold spansF
      rw [spAt_none (spAt_stop hS (.inl hneg)) _ hlt]
    · by_cases hsh : (S.st.length : Int) < takesZ (e.getD k (0, 0)).1
      · right
        rw [run_short hlt hneg hsh]
        refine ⟨by decide, ?_⟩
        unfold spansF
        rw [spAt_none (spAt_stop hS (.inr hsh)) _ hlt]
      · obtain ⟨t, ht⟩ : ∃ t : Nat, takesZ (e.getD k (0, 0)).1 = t := ⟨(takesZ (e.getD k (0, 0)).1).toNat, by omega⟩
        have htl : t ≤ S.st.length := by omega
        rw [run_next hlt ht htl rfl (by omega)]
        exact run_spans n (k + 1) ⟨_, _⟩ (by omega) hlt (spAt_next hS ht htl)
end Go.Proofs.Ytjciamefkacchaa
