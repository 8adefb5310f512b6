/- Contracts that the claim stands on, several texts in one: LtlPure, LtlParts, LtlWholeP, LtxPure, LtxRead, Base. -/
import Derived.Test.YtgnflnfajkoibaaDoorRows
import Derived.WalkKit
import Derived.ProofKit
import Derived.OpenShut
import Derived.Handy
import Derived.Below
import Derived.Outline
import Derived.RegionTactic
import Derived.ChangeAlike
import Derived.Deep.QuietTactic
import Derived.BigQuiet
import Derived.Lib.Hide
import Derived.WalkSpells
import Derived.StillTailTactics
import Derived.Deep.OwnRows
/- Formulas as lists of nodes, plain: what is wrong with them, where their parts begin and end. Nothing here speaks of the program. -/
namespace Go.Proofs.YtgnflnfajkoibaaDoor.lt

/-- How many parts an operation takes; -1: it is none. -/
def kT (op : Int) : Int := if op = 1 ∨ op = 2 ∨ op = 3 then 0 else if op = 4 ∨ op = 8 ∨ op = 11 ∨ op = 12 then 1 else if op = 5 ∨ op = 6 ∨ op = 7 ∨ op = 9 ∨ op = 10 then 2 else -1
theorem kT_range (op : Int) : kT op = -1 ∨ kT op = 0 ∨ kT op = 1 ∨ kT op = 2 := by unfold kT; split <;> (try split) <;> (try split) <;> simp
theorem kT_cases (op : Int) : (kT op = 0 ∧ (op = 1 ∨ op = 2 ∨ op = 3)) ∨ (kT op = 1 ∧ (op = 4 ∨ op = 8 ∨ op = 11 ∨ op = 12)) ∨ (kT op = 2 ∧ (op = 5 ∨ op = 6 ∨ op = 7 ∨ op = 9 ∨ op = 10)) ∨ (kT op = -1 ∧ ¬ (1 ≤ op ∧ op ≤ 12)) := by
  unfold kT
  split
  · exact .inl ⟨rfl, ‹_›⟩
  · split
    · exact .inr (.inl ⟨rfl, ‹_›⟩)
    · split
      · exact .inr (.inr (.inl ⟨rfl, ‹_›⟩))
      · exact .inr (.inr (.inr ⟨rfl, by omega⟩))

/-- What is wrong with a node ahead of which n parts stand. -/
def ndW (n : Nat) (x : Int × Int) : Int := if kT x.1 < 0 then 3 else if (n : Int) < kT x.1 then 4 else if x.1 = 3 ∧ (x.2 < 0 ∨ 8 ≤ x.2) then 10 else 0
/-- What is wrong with nodes ahead of which n parts stand. -/
def wrF : Nat → List (Int × Int) → Int
  | n, [] => if n = 0 then 4 else if 1 < n then 5 else 0
  | n, x :: e => if ndW n x ≠ 0 then ndW n x else wrF (n - (kT x.1).toNat + 1) e
/-- Is it a formula, however long? -/
def isF (e : List (Int × Int)) : Bool := decide (wrF 0 e = 0)
theorem isF_iff {e : List (Int × Int)} : isF e = true ↔ wrF 0 e = 0 := by simp [isF]

theorem drop_nd {e : List (Int × Int)} {k : Nat} (h : k < e.length) : e.drop k = e.getD k (0, 0) :: e.drop (k + 1) := by
  rw [List.drop_eq_getElem_cons h]
  simp [List.getD, h]
theorem wr_stop {e : List (Int × Int)} {k n : Nat} (hk : k < e.length) (h : ndW n (e.getD k (0, 0)) ≠ 0) : wrF n (e.drop k) = ndW n (e.getD k (0, 0)) := by
  rw [drop_nd hk, wrF, if_pos h]
theorem wr_next {e : List (Int × Int)} {k n : Nat} (hk : k < e.length) (h : ndW n (e.getD k (0, 0)) = 0) : wrF n (e.drop k) = wrF (n - (kT (e.getD k (0, 0)).1).toNat + 1) (e.drop (k + 1)) := by
  rw [drop_nd hk, wrF, if_neg (by omega)]
theorem wr_end {e : List (Int × Int)} {k n : Nat} (hk : e.length ≤ k) : wrF n (e.drop k) = if n = 0 then 4 else if 1 < n then 5 else 0 := by
  rw [List.drop_of_length_le hk, wrF]
theorem ndW_ok {n : Nat} {x : Int × Int} (h : ndW n x = 0) : 0 ≤ kT x.1 ∧ kT x.1 ≤ n ∧ (x.1 = 3 → 0 ≤ x.2 ∧ x.2 < 8) := by
  unfold ndW at h
  split at h
  · cases h
  · split at h
    · cases h
    · split at h
      · cases h
      · exact ⟨by omega, by omega, fun h3 => by omega⟩
theorem ndW_range (n : Nat) (x : Int × Int) : ndW n x = 0 ∨ ndW n x = 3 ∨ ndW n x = 4 ∨ ndW n x = 10 := by unfold ndW; split <;> (try split) <;> (try split) <;> simp
theorem wrF_range : ∀ (e : List (Int × Int)) (n : Nat), wrF n e = 0 ∨ wrF n e = 3 ∨ wrF n e = 4 ∨ wrF n e = 5 ∨ wrF n e = 10
  | [], n => by unfold wrF; split <;> (try split) <;> simp
  | x :: e, n => by
    unfold wrF
    have := ndW_range n x
    have := wrF_range e (n - (kT x.1).toNat + 1)
    split <;> omega

/-- The numbers of the parts (their last nodes) that the first i nodes are, side by side; out: where parts begin. -/
inductive Pt (out : List Int) : Nat → List Int → Prop
  | nil : Pt out 0 []
  | snoc (i s : Nat) (st : List Int) : s ≤ i → i < out.length → out.getD i 0 = (s : Int) → Pt out s st → Pt out (i + 1) (st ++ [(i : Int)])
theorem Pt.zero {out : List Int} {st : List Int} (h : Pt out 0 st) : st = [] := by cases h with | nil => rfl
theorem Pt.le {out : List Int} {i : Nat} {st : List Int} (h : Pt out i st) : i ≤ out.length := by
  cases h with
  | nil => exact Nat.zero_le _
  | snoc i s st _ h2 _ _ => exact h2
theorem Pt.len {out : List Int} {i : Nat} {st : List Int} (h : Pt out i st) : st.length ≤ i := by
  induction h with
  | nil => exact Nat.zero_le _
  | snoc i s st h1 h2 h3 h4 ih => simp; omega
theorem Pt.pos {out : List Int} {i : Nat} {st : List Int} (h : Pt out (i + 1) st) : ∃ (s : Nat) (st' : List Int), st = st' ++ [(i : Int)] ∧ s ≤ i ∧ i < out.length ∧ out.getD i 0 = (s : Int) ∧ Pt out s st' := by
  cases h with
  | snoc _ s st h1 h2 h3 h4 => exact ⟨s, st, rfl, h1, h2, h3, h4⟩
theorem Pt.more {out : List Int} {i : Nat} {st : List Int} (h : Pt out i st) (x : Int) : Pt (out ++ [x]) i st := by
  induction h with
  | nil => exact .nil
  | snoc i s st h1 h2 h3 _ ih =>
    refine .snoc i s st h1 (by simp; omega) ?_ ih
    rw [← h3]
    simp [List.getD, List.getElem?_append_left h2]
theorem Pt.uniq {out : List Int} {i : Nat} {st st2 : List Int} (h : Pt out i st) (h2 : Pt out i st2) : st = st2 := by
  induction h generalizing st2 with
  | nil => exact h2.zero.symm
  | snoc i s st h1 h2' h3 _ ih =>
    obtain ⟨s2, st', rfl, g1, g2, g3, g4⟩ := h2.pos
    have : s = s2 := by rw [h3] at g3; omega
    subst this
    rw [ih g4]

/-- The beginning of the part of a node that takes t parts, if i nodes stand ahead of it. -/
def bgn (out : List Int) (k t : Nat) : Int := if t = 0 then k else if t = 1 then out.getD (k - 1) 0 else out.getD ((out.getD (k - 1) 0).toNat - 1) 0
/-- The beginnings of the parts of the first k nodes. -/
def outF (e : List (Int × Int)) : Nat → List Int
  | 0 => []
  | k + 1 => outF e k ++ [bgn (outF e k) k (kT (e.getD k (0, 0)).1).toNat]
theorem outF_len (e : List (Int × Int)) : ∀ k, (outF e k).length = k
  | 0 => rfl
  | k + 1 => by simp [outF, outF_len e k]
theorem outF_succ (e : List (Int × Int)) (k : Nat) : outF e (k + 1) = outF e k ++ [bgn (outF e k) k (kT (e.getD k (0, 0)).1).toNat] := rfl
theorem outF_at (e : List (Int × Int)) : ∀ {k j : Nat}, j < k → (outF e k).getD j 0 = bgn (outF e j) j (kT (e.getD j (0, 0)).1).toNat
  | 0, j, h => by omega
  | k + 1, j, h => by
    rw [outF_succ]
    by_cases hj : j = k
    · subst hj
      simp [List.getD, outF_len]
    · have hlt : j < (outF e k).length := by rw [outF_len]; omega
      rw [← outF_at e (show j < k by omega)]
      simp [List.getD, List.getElem?_append_left hlt]
theorem outF_take (e : List (Int × Int)) {k j i : Nat} (h : i < j) (hj : j ≤ k) : (outF e k).getD i 0 = (outF e j).getD i 0 := by rw [outF_at e (show i < k by omega), outF_at e h]

/-- What is dropped of the parts' numbers, and what is left, when a node takes t of them. -/
theorem Pt.takes {out : List Int} {k t : Nat} {st : List Int} (h : Pt out k st) (ht : t ≤ st.length) (ht2 : t ≤ 2) :
    ∃ s : Nat, s ≤ k ∧ bgn out k t = (s : Int) ∧ Pt out s (st.take (st.length - t)) ∧ (t = 0 → s = k) ∧ (t = 1 → 1 ≤ k ∧ s < k ∧ st.drop (st.length - t) = [((k - 1 : Nat) : Int)] ∧ out.getD (k - 1) 0 = (s : Int)) ∧
      (t = 2 → ∃ r : Nat, 1 ≤ r ∧ r < k ∧ s < r ∧ st.drop (st.length - t) = [((r - 1 : Nat) : Int), ((k - 1 : Nat) : Int)] ∧ out.getD (k - 1) 0 = (r : Int) ∧ out.getD (r - 1) 0 = (s : Int)) := by
  rcases Nat.eq_zero_or_pos t with h0 | h0
  · subst h0
    exact ⟨k, Nat.le_refl _, by simp [bgn], by rw [Nat.sub_zero, List.take_length]; exact h, fun _ => rfl, fun h => by omega, fun h => by omega⟩
  · obtain ⟨i, rfl⟩ : ∃ i, k = i + 1 := by
      rcases k with _ | i
      · have := h.zero; subst this; simp at ht; omega
      · exact ⟨i, rfl⟩
    obtain ⟨r, st', rfl, g1, g2, g3, g4⟩ := h.pos
    by_cases h1 : t = 1
    · subst h1
      refine ⟨r, by omega, by simp [bgn]; exact g3, ?_, fun h => by omega, fun _ => ⟨by omega, by omega, ?_, by simpa using g3⟩, fun h => by omega⟩
      · simp
        exact g4
      · simp
    · obtain rfl : t = 2 := by omega
      obtain ⟨j, rfl⟩ : ∃ j, r = j + 1 := by
        rcases r with _ | j
        · have := g4.zero; subst this; simp at ht
        · exact ⟨j, rfl⟩
      obtain ⟨s, st'', rfl, q1, q2, q3, q4⟩ := g4.pos
      refine ⟨s, by omega, ?_, ?_, fun h => by omega, fun h => by omega, fun _ => ⟨j + 1, by omega, by omega, by omega, ?_, by simpa using g3, by simpa using q3⟩⟩
      · have e2 : (out.getD (i + 1 - 1) 0).toNat = j + 1 := by rw [Nat.add_sub_cancel, g3]; rfl
        unfold bgn
        rw [if_neg (by omega), if_neg (by omega), e2, Nat.add_sub_cancel, q3]
      · have e1 : (st'' ++ [(j : Int)] ++ [(i : Int)]).length - 2 = st''.length := by simp
        rw [e1, List.append_assoc, List.take_left']
        · exact q4
        · rfl
      · have e1 : (st'' ++ [(j : Int)] ++ [(i : Int)]).length - 2 = st''.length := by simp
        rw [e1, List.append_assoc, List.drop_left']
        · simp
        · rfl
/-- The parts' numbers after one node more. -/
theorem Pt.next {e : List (Int × Int)} {k : Nat} {st : List Int} (h : Pt (outF e k) k st) (hn : ndW st.length (e.getD k (0, 0)) = 0) :
    Pt (outF e (k + 1)) (k + 1) (st.take (st.length - (kT (e.getD k (0, 0)).1).toNat) ++ [(k : Int)]) := by
  obtain ⟨h1, h2, _⟩ := ndW_ok hn
  have hr := kT_range (e.getD k (0, 0)).1
  obtain ⟨s, s1, s2, s3, _⟩ := h.takes (t := (kT (e.getD k (0, 0)).1).toNat) (by omega) (by omega)
  unfold outF
  refine .snoc k s _ s1 (by simp [outF_len]) ?_ (s3.more _)
  rw [← s2]
  simp [List.getD, outF_len]

/-- After the first k nodes of a formula's beginning: the parts' numbers. -/
def Ok (e : List (Int × Int)) (k : Nat) (st : List Int) : Prop := Pt (outF e k) k st ∧ wrF 0 e = wrF st.length (e.drop k)
theorem Ok.zero (e : List (Int × Int)) : Ok e 0 [] := ⟨.nil, by simp⟩
theorem Ok.next {e : List (Int × Int)} {k : Nat} {st : List Int} (h : Ok e k st) (hk : k < e.length) (hn : ndW st.length (e.getD k (0, 0)) = 0) :
    Ok e (k + 1) (st.take (st.length - (kT (e.getD k (0, 0)).1).toNat) ++ [(k : Int)]) := by
  refine ⟨h.1.next hn, ?_⟩
  rw [h.2, wr_next hk hn]
  congr 1
  have := ndW_ok hn
  simp
/-- A formula's beginnings: after all nodes one part is left. -/
theorem Ok.of_is {e : List (Int × Int)} (h : wrF 0 e = 0) : ∀ k, k ≤ e.length → ∃ st, Ok e k st ∧ (k < e.length → ndW st.length (e.getD k (0, 0)) = 0)
  | 0, _ => by
    refine ⟨[], Ok.zero e, fun hk => ?_⟩
    by_cases hn : ndW 0 (e.getD 0 (0, 0)) = 0
    · exact hn
    · have := wr_stop hk hn
      rw [List.drop_zero, h] at this
      exact absurd this.symm hn
  | k + 1, hk => by
    obtain ⟨st, h1, h2⟩ := Ok.of_is h k (by omega)
    have h3 := h1.next (by omega) (h2 (by omega))
    refine ⟨_, h3, fun hk2 => ?_⟩
    by_cases hn : ndW (st.take (st.length - (kT (e.getD k (0, 0)).1).toNat) ++ [(k : Int)]).length (e.getD (k + 1) (0, 0)) = 0
    · exact hn
    · have := wr_stop hk2 hn
      rw [← h3.2, h] at this
      exact absurd this.symm hn
theorem Ok.uniq {e : List (Int × Int)} {k : Nat} {st st2 : List Int} (h : Ok e k st) (h2 : Ok e k st2) : st = st2 := h.1.uniq h2.1

/-- The parts of a node. -/
def kidsF (e : List (Int × Int)) (at_ : Int) : Int × Int :=
  if isF e = true ∧ 0 ≤ at_ ∧ at_ < e.length ∧ kT (e.getD at_.toNat (0, 0)).1 ≠ 0 then
    if kT (e.getD at_.toNat (0, 0)).1 = 1 then (at_ - 1, -1) else ((outF e e.length).getD (at_ - 1).toNat 0 - 1, at_ - 1)
  else (-1, -1)
def spansL (e : List (Int × Int)) : List Int := if isF e = true then outF e e.length else []
end Go.Proofs.YtgnflnfajkoibaaDoor.lt
namespace Go.Proofs.YtgnflnfajkoibaaDoor.lt

theorem Pt.mem {out : List Int} {i : Nat} {st : List Int} (h : Pt out i st) : ∀ x ∈ st, ∃ j : Nat, j < i ∧ x = (j : Int) := by
  induction h with
  | nil => intro x hx; simp at hx
  | snoc i s st h1 h2 h3 h4 ih =>
    intro x hx
    rw [List.mem_append] at hx
    rcases hx with hx | hx
    · obtain ⟨j, hj, rfl⟩ := ih x hx
      exact ⟨j, by omega, rfl⟩
    · simp at hx
      exact ⟨i, by omega, hx⟩

/-- The beginnings of the parts that stand. -/
def bst (e : List (Int × Int)) (k : Nat) (pt : List Int) : List Int := pt.map (fun i => (outF e k).getD i.toNat 0)
theorem bst_len (e : List (Int × Int)) (k : Nat) (pt : List Int) : (bst e k pt).length = pt.length := by simp [bst]
theorem bst_next {e : List (Int × Int)} {k t : Nat} {pt : List Int} (h : Pt (outF e k) k pt) (ht : kT (e.getD k (0, 0)).1 = t) :
    bst e (k + 1) (pt.take (pt.length - t) ++ [(k : Int)]) = (bst e k pt).take (pt.length - t) ++ [bgn (outF e k) k t] := by
  unfold bst
  rw [List.map_append, ← List.map_take]
  congr 1
  · apply List.map_congr_left
    intro x hx
    obtain ⟨j, hj, rfl⟩ := h.mem x (List.mem_of_mem_take hx)
    exact outF_take e (by simpa using hj) (by omega)
  · simp only [List.map_cons, List.map_nil, Int.toNat_natCast]
    rw [outF_at e (by omega), ht]
    rfl
theorem bst_first {e : List (Int × Int)} {k t : Nat} {pt : List Int} (h : Pt (outF e k) k pt) (ht0 : 0 < t) (ht : t ≤ pt.length) (ht2 : t ≤ 2) :
    ((bst e k pt).drop (pt.length - t)).getD 0 0 = bgn (outF e k) k t := by
  obtain ⟨s, s1, s2, s3, _, s5, s6⟩ := h.takes ht ht2
  unfold bst
  rw [← List.map_drop]
  by_cases h1 : t = 1
  · obtain ⟨_, _, e1, e2⟩ := s5 h1
    rw [e1, s2]
    simpa [List.getD] using e2
  · obtain ⟨r, _, _, _, e1, _, e2⟩ := s6 (by omega)
    rw [e1, s2]
    simpa [List.getD] using e2

/-- The parts of node number j. -/
def prt (e : List (Int × Int)) (j : Nat) : Int × Int :=
  if kT (e.getD j (0, 0)).1 = 1 then ((j : Int) - 1, -1) else if kT (e.getD j (0, 0)).1 = 2 then ((outF e e.length).getD (j - 1) 0 - 1, (j : Int) - 1) else (-1, -1)
/-- What Kids knows after k nodes. -/
def kidsK (e : List (Int × Int)) (at_ : Int) (k : Nat) : Int × Int := if 0 ≤ at_ ∧ at_ < k then prt e at_.toNat else (-1, -1)
theorem kidsK_other {e : List (Int × Int)} {at_ : Int} {k : Nat} (h : at_ ≠ k) : kidsK e at_ (k + 1) = kidsK e at_ k := by
  unfold kidsK
  by_cases h1 : 0 ≤ at_ ∧ at_ < k
  · rw [if_pos h1, if_pos (by omega)]
  · rw [if_neg h1, if_neg (by omega)]
theorem kidsK_here (e : List (Int × Int)) (k : Nat) : kidsK e k (k + 1) = prt e k := by
  unfold kidsK
  rw [if_pos (by omega)]
  simp
theorem kidsK_before (e : List (Int × Int)) (k : Nat) : kidsK e k k = (-1, -1) := by
  unfold kidsK
  rw [if_neg (by omega)]
theorem prt_of {e : List (Int × Int)} {k t : Nat} {pt : List Int} (hk : k < e.length) (h : Pt (outF e k) k pt) (ht : kT (e.getD k (0, 0)).1 = t) (htl : t ≤ pt.length) :
    (t = 0 ∧ prt e k = (-1, -1) ∧ pt.drop (pt.length - t) = []) ∨ (∃ a, t = 1 ∧ prt e k = (a, -1) ∧ pt.drop (pt.length - t) = [a]) ∨ (∃ a b, t = 2 ∧ prt e k = (a, b) ∧ pt.drop (pt.length - t) = [a, b]) := by
  have hr := kT_range (e.getD k (0, 0)).1
  obtain ⟨s, s1, s2, s3, _, s5, s6⟩ := h.takes htl (by omega)
  unfold prt
  by_cases h0 : t = 0
  · subst h0
    exact .inl ⟨rfl, by rw [if_neg (by omega), if_neg (by omega)], by simp⟩
  · by_cases h1 : t = 1
    · obtain ⟨g1, _, e1, _⟩ := s5 h1
      refine .inr (.inl ⟨(k : Int) - 1, h1, by rw [if_pos (by omega)], ?_⟩)
      rw [e1]
      congr 1
      omega
    · obtain ⟨r, r1, r2, r3, e1, e2, e3⟩ := s6 (by omega)
      refine .inr (.inr ⟨(r : Int) - 1, (k : Int) - 1, by omega, ?_, ?_⟩)
      · rw [if_neg (by omega), if_pos (by omega), outF_take e (show k - 1 < k by omega) (by omega), e2]
      · rw [e1]
        congr 1
        · omega
        · congr 1
          omega
theorem kidsF_is {e : List (Int × Int)} {at_ : Int} (h : wrF 0 e = 0) : kidsF e at_ = kidsK e at_ e.length := by
  unfold kidsF kidsK prt
  have hi : isF e = true := isF_iff.2 h
  by_cases h1 : 0 ≤ at_ ∧ at_ < (e.length : Int)
  · obtain ⟨st, h2, h3⟩ := Ok.of_is h at_.toNat (by omega)
    have h4 := ndW_ok (h3 (by omega))
    have hr := kT_range (e.getD at_.toNat (0, 0)).1
    rw [if_pos h1]
    by_cases h0 : kT (e.getD at_.toNat (0, 0)).1 = 0
    · rw [if_neg (by omega), if_neg (by omega), if_neg (by omega)]
    · rw [if_pos ⟨hi, h1.1, h1.2, h0⟩]
      by_cases h5 : kT (e.getD at_.toNat (0, 0)).1 = 1
      · rw [if_pos h5, if_pos h5]
        congr 1
        omega
      · rw [if_neg h5, if_neg h5, if_pos (by omega), show (at_ - 1).toNat = at_.toNat - 1 by omega]
        congr 1
        omega
  · rw [if_neg h1, if_neg (by omega)]
theorem kidsF_not {e : List (Int × Int)} {at_ : Int} (h : wrF 0 e ≠ 0) : kidsF e at_ = (-1, -1) := by
  unfold kidsF
  rw [if_neg (fun h2 => h (isF_iff.1 h2.1))]
theorem spansL_is {e : List (Int × Int)} (h : wrF 0 e = 0) : spansL e = outF e e.length := if_pos (isF_iff.2 h)
theorem spansL_not {e : List (Int × Int)} (h : wrF 0 e ≠ 0) : spansL e = [] := if_neg (fun h2 => h (isF_iff.1 h2))

/-- The propositions of a node, of a row of sets, of the first k nodes. -/
def pn (x : Int × Int) : Nat := if x.1 = 3 then 1 <<< x.2.toNat else 0
def orL (l : List Nat) : Nat := l.foldr (· ||| ·) 0
def prK (e : List (Int × Int)) : Nat → Nat
  | 0 => 0
  | k + 1 => prK e k ||| pn (e.getD k (0, 0))
def propsF (e : List (Int × Int)) : Nat := if isF e = true then prK e e.length else 0
theorem orL_append : ∀ a b : List Nat, orL (a ++ b) = orL a ||| orL b
  | [], b => by simp [orL]
  | x :: a, b => by
    have ih := orL_append a b
    unfold orL at ih ⊢
    rw [List.cons_append, List.foldr_cons, ih, List.foldr_cons, Nat.or_assoc]
theorem orL_next {e : List (Int × Int)} {k t : Nat} {xs : List Nat} {r : Nat} (h : orL xs = prK e k) (hr : r = pn (e.getD k (0, 0)) ||| orL (xs.drop (xs.length - t))) :
    orL (xs.take (xs.length - t) ++ [r]) = prK e (k + 1) := by
  rw [orL_append, hr]
  show orL _ ||| (_ ||| 0) = prK e k ||| _
  rw [Nat.or_zero, ← h]
  conv => rhs; rw [← List.take_append_drop (xs.length - t) xs, orL_append]
  rw [Nat.or_assoc, Nat.or_comm (orL (xs.drop _))]
theorem or_lt256 {a b : Nat} (ha : a < 256) (hb : b < 256) : a ||| b < 256 := Nat.or_lt_two_pow (n := 8) ha hb
theorem orL_lt : ∀ l : List Nat, (∀ x ∈ l, x < 256) → orL l < 256
  | [], _ => by decide
  | x :: l, h => or_lt256 (h x (by simp)) (orL_lt l fun y hy => h y (by simp [hy]))
theorem pn_lt {x : Int × Int} (h : x.1 = 3 → 0 ≤ x.2 ∧ x.2 < 8) : pn x < 256 := by
  unfold pn
  by_cases h3 : x.1 = 3
  · rw [if_pos h3]
    obtain ⟨h1, h2⟩ := h h3
    rw [Nat.one_shiftLeft]
    exact Nat.pow_lt_pow_right (by decide) (show x.2.toNat < 8 by omega)
  · rw [if_neg h3]
    decide
theorem prK_lt {e : List (Int × Int)} (h : wrF 0 e = 0) : ∀ k, k ≤ e.length → prK e k < 256
  | 0, _ => (by decide : (0 : Nat) < 256)
  | k + 1, hk => by
    obtain ⟨st, _, h3⟩ := Ok.of_is h k (by omega)
    exact or_lt256 (prK_lt h k (by omega)) (pn_lt (ndW_ok (h3 (by omega))).2.2)

/-- Is there a next among the first k nodes? -/
def nxK (e : List (Int × Int)) (k : Nat) : Bool := (e.take k).any fun x => decide (x.1 = 8)
def nextF (e : List (Int × Int)) : Bool := isF e && nxK e e.length
theorem nxK_succ {e : List (Int × Int)} {k : Nat} (h : k < e.length) : nxK e (k + 1) = (nxK e k || decide ((e.getD k (0, 0)).1 = 8)) := by
  unfold nxK
  rw [List.take_succ_eq_append_getElem h, List.any_append]
  simp [List.getD, h]
theorem any_next {e : List (Int × Int)} {k t : Nat} {xs : List Bool} {r : Bool} (hk : k < e.length) (h : xs.any id = nxK e k) (hr : r = (decide ((e.getD k (0, 0)).1 = 8) || (xs.drop (xs.length - t)).any id)) :
    (xs.take (xs.length - t) ++ [r]).any id = nxK e (k + 1) := by
  rw [List.any_append, nxK_succ hk, ← h, hr]
  conv => rhs; rw [← List.take_append_drop (xs.length - t) xs, List.any_append]
  simp only [List.any_cons, List.any_nil, id_eq, Bool.or_false]
  cases (List.take (xs.length - t) xs).any id <;> cases (List.drop (xs.length - t) xs).any id <;> simp

/-- The untils among the first k nodes. -/
def utK (e : List (Int × Int)) : Nat → List Int
  | 0 => []
  | k + 1 => if (e.getD k (0, 0)).1 = 9 then utK e k ++ [(k : Int)] else utK e k
def untilsF (e : List (Int × Int)) : List Int := if isF e = true then utK e e.length else []
theorem utK_len (e : List (Int × Int)) : ∀ k, (utK e k).length ≤ k
  | 0 => Nat.le_refl _
  | k + 1 => by
    unfold utK
    have := utK_len e k
    split
    · simp; omega
    · omega
def notF (e : List (Int × Int)) : List (Int × Int) := if isF e = true then e ++ [(4, 0)] else []
end Go.Proofs.YtgnflnfajkoibaaDoor.lt
namespace Go.Proofs.YtgnflnfajkoibaaDoor.lt

theorem Pt.none {out : List Int} {i : Nat} (h : Pt out i []) : i = 0 := by
  rcases i with _ | i
  · rfl
  · obtain ⟨s, st', e, _⟩ := h.pos
    simp at e
/-- The parts of a node, one by one. -/
theorem whole_of {e : List (Int × Int)} (h : wrF 0 e = 0) {i : Nat} (hi : i < e.length) :
    (kidsF e i = (-1, -1) ∧ (outF e e.length).getD i 0 = (i : Int)) ∨
    (∃ j v : Nat, i = j + 1 ∧ v ≤ j ∧ kidsF e i = ((j : Int), -1) ∧ (outF e e.length).getD i 0 = (v : Int) ∧ (outF e e.length).getD j 0 = (v : Int)) ∨
    (∃ j q v : Nat, i = j + 1 ∧ q < j ∧ v ≤ q ∧ kidsF e i = ((q : Int), (j : Int)) ∧ (outF e e.length).getD i 0 = (v : Int) ∧ (outF e e.length).getD q 0 = (v : Int) ∧ (outF e e.length).getD j 0 = ((q + 1 : Nat) : Int)) := by
  obtain ⟨st, h1, h2⟩ := Ok.of_is h i (by omega)
  have h3 := ndW_ok (h2 hi)
  have hr := kT_range (e.getD i (0, 0)).1
  obtain ⟨t, ht⟩ : ∃ t : Nat, kT (e.getD i (0, 0)).1 = t := ⟨(kT (e.getD i (0, 0)).1).toNat, by omega⟩
  have hk : kidsF e i = prt e i := by
    rw [kidsF_is h]
    unfold kidsK
    rw [if_pos ⟨by omega, by omega⟩]
    simp
  have hs : (outF e e.length).getD i 0 = bgn (outF e i) i t := by rw [outF_at e hi, ht]; rfl
  obtain ⟨s, s1, s2, s3, s4, s5, s6⟩ := h1.1.takes (t := t) (by omega) (by omega)
  rw [hk, hs, s2]
  unfold prt
  by_cases h0 : t = 0
  · refine .inl ⟨by rw [if_neg (by omega), if_neg (by omega)], ?_⟩
    rw [s4 h0]
  · by_cases h1' : t = 1
    · obtain ⟨g1, g2, _, g4⟩ := s5 h1'
      refine .inr (.inl ⟨i - 1, s, by omega, by omega, ?_, rfl, ?_⟩)
      · rw [if_pos (by omega)]
        congr 1
        omega
      · rw [outF_take e (show i - 1 < i by omega) (by omega), g4]
    · obtain ⟨r, r1, r2, r3, _, r5, r6⟩ := s6 (by omega)
      refine .inr (.inr ⟨i - 1, r - 1, s, by omega, by omega, by omega, ?_, rfl, ?_, ?_⟩)
      · rw [if_neg (by omega), if_pos (by omega), outF_take e (show i - 1 < i by omega) (by omega), r5]
        congr 1
        · omega
        · omega
      · rw [outF_take e (show r - 1 < i by omega) (by omega), r6]
      · rw [outF_take e (show i - 1 < i by omega) (by omega), r5]
        omega
/-- The last node's part is the whole. -/
theorem whole_last {e : List (Int × Int)} (h : wrF 0 e = 0) : 0 < e.length ∧ (outF e e.length).getD (e.length - 1) 0 = 0 := by
  obtain ⟨st, h1, _⟩ := Ok.of_is h e.length (Nat.le_refl _)
  have h2 := h1.2
  rw [h, wr_end (Nat.le_refl _)] at h2
  have hl : st.length = 1 := by
    by_cases h0 : st.length = 0
    · rw [if_pos h0] at h2; cases h2
    · rw [if_neg h0] at h2
      by_cases h3 : 1 < st.length
      · rw [if_pos h3] at h2; cases h2
      · omega
  have hpos : 0 < e.length := by
    rcases Nat.eq_zero_or_pos e.length with h0 | h0
    · have := h1.1.len
      omega
    · exact h0
  refine ⟨hpos, ?_⟩
  obtain ⟨j, hj⟩ : ∃ j, e.length = j + 1 := ⟨e.length - 1, by omega⟩
  have h3 := h1.1
  rw [hj] at h3 ⊢
  obtain ⟨s, st', e1, _, _, g3, g4⟩ := h3.pos
  have hn : st' = [] := by
    apply List.eq_nil_of_length_eq_zero
    rw [e1] at hl
    simpa using hl
  subst hn
  rw [Nat.add_sub_cancel, g3, g4.none]
  rfl

theorem wr_not : ∀ (e : List (Int × Int)) (n : Nat), wrF n e = 0 → wrF n (e ++ [(4, 0)]) = 0
  | [], n, h => by
    unfold wrF at h
    have h1 : n = 1 := by
      by_cases h0 : n = 0
      · rw [if_pos h0] at h; cases h
      · rw [if_neg h0] at h
        by_cases h3 : 1 < n
        · rw [if_pos h3] at h; cases h
        · omega
    subst h1
    decide
  | x :: e, n, h => by
    rw [List.cons_append]
    unfold wrF at h ⊢
    by_cases h0 : ndW n x ≠ 0
    · rw [if_pos h0] at h
      exact absurd h h0
    · rw [if_neg h0] at h ⊢
      exact wr_not e _ h
theorem getD_app {e : List (Int × Int)} {x : Int × Int} {k : Nat} (hk : k < e.length) : (e ++ [x]).getD k (0, 0) = e.getD k (0, 0) := by simp [List.getD, List.getElem?_append_left hk]
theorem getD_last (e : List (Int × Int)) (x : Int × Int) : (e ++ [x]).getD e.length (0, 0) = x := by simp [List.getD]
theorem prK_succ (e : List (Int × Int)) (k : Nat) : prK e (k + 1) = prK e k ||| pn (e.getD k (0, 0)) := rfl
theorem utK_succ (e : List (Int × Int)) (k : Nat) : utK e (k + 1) = if (e.getD k (0, 0)).1 = 9 then utK e k ++ [(k : Int)] else utK e k := rfl
theorem prK_app {e : List (Int × Int)} {x : Int × Int} : ∀ {k : Nat}, k ≤ e.length → prK (e ++ [x]) k = prK e k
  | 0, _ => rfl
  | k + 1, hk => by
    unfold prK
    rw [prK_app (by omega), getD_app (by omega)]
theorem utK_app {e : List (Int × Int)} {x : Int × Int} : ∀ {k : Nat}, k ≤ e.length → utK (e ++ [x]) k = utK e k
  | 0, _ => rfl
  | k + 1, hk => by
    unfold utK
    rw [utK_app (by omega), getD_app (by omega)]
theorem not_is {e : List (Int × Int)} (h : isF e = true) : isF (e ++ [(4, 0)]) = true := isF_iff.2 (wr_not e 0 (isF_iff.1 h))
theorem not_props {e : List (Int × Int)} (h : isF e = true) : propsF (e ++ [(4, 0)]) = propsF e := by
  unfold propsF
  rw [if_pos h, if_pos (not_is h), List.length_append]
  show prK _ (e.length + 1) = _
  rw [prK_succ, prK_app (Nat.le_refl _), getD_last]
  exact Nat.or_zero _
theorem not_untils {e : List (Int × Int)} (h : isF e = true) : untilsF (e ++ [(4, 0)]) = untilsF e := by
  unfold untilsF
  rw [if_pos h, if_pos (not_is h), List.length_append]
  show utK _ (e.length + 1) = _
  rw [utK_succ, utK_app (Nat.le_refl _), getD_last, if_neg (by decide)]
theorem not_next {e : List (Int × Int)} (h : isF e = true) : nextF (e ++ [(4, 0)]) = nextF e := by
  unfold nextF nxK
  rw [h, not_is h, List.take_length, List.take_length, List.any_append]
  simp
theorem not_kids {e : List (Int × Int)} (h : isF e = true) : kidsF (e ++ [(4, 0)]) e.length = ((e.length : Int) - 1, -1) := by
  unfold kidsF
  have e1 : ((e.length : Nat) : Int).toNat = e.length := Int.toNat_natCast _
  rw [e1, getD_last, if_pos ⟨not_is h, by omega, by rw [List.length_append]; simp; omega, by decide⟩, if_pos (by decide)]
end Go.Proofs.YtgnflnfajkoibaaDoor.lt
namespace Go.Proofs.YtgnflnfajkoibaaDoor.tx
open lt

/-- How an operation is written, how it binds, what its places ask for (0: it has none). -/
structure Opr where
  op : Int
  sg : List UInt8
  bd : Int
  lf : Int
  rt : Int
deriving DecidableEq
instance : Inhabited Opr := ⟨⟨0, [], 0, 0, 0⟩⟩
def opsQ : List Opr := [⟨1, [116, 114, 117, 101], 5, 0, 0⟩, ⟨2, [102, 97, 108, 115, 101], 5, 0, 0⟩, ⟨4, [33], 5, 0, 5⟩, ⟨8, [88], 5, 0, 5⟩, ⟨11, [70], 5, 0, 5⟩, ⟨12, [71], 5, 0, 5⟩, ⟨9, [85], 4, 5, 4⟩, ⟨10, [82], 4, 5, 4⟩, ⟨5, [38, 38], 3, 3, 4⟩, ⟨6, [124, 124], 2, 2, 3⟩, ⟨7, [61, 62], 1, 2, 1⟩]
/-- The operation of a sign; the operation of a number. -/
def wrO (s : List UInt8) : Option Opr := opsQ.find? (fun o => o.sg == s)
def opO (op : Int) : Option Opr := opsQ.find? (fun o => o.op == op)
theorem opsQ_len : opsQ.length = 11 := rfl
theorem wrO_mem {s : List UInt8} {o : Opr} (h : wrO s = some o) : o ∈ opsQ ∧ o.sg = s := by
  have h1 := List.mem_of_find?_eq_some h
  have h2 := List.find?_some h
  exact ⟨h1, by simpa using h2⟩
theorem opO_mem {op : Int} {o : Opr} (h : opO op = some o) : o ∈ opsQ ∧ o.op = op := by
  have h1 := List.mem_of_find?_eq_some h
  have h2 := List.find?_some h
  exact ⟨h1, by simpa using h2⟩
theorem opO_3 : opO 3 = none := by decide
theorem opO_is {op : Int} (h : 0 ≤ kT op) (h3 : op ≠ 3) : ∃ o, opO op = some o ∧ o.op = op ∧ (o.rt = 0 ↔ kT op = 0) ∧ (o.rt ≠ 0 → (o.lf = 0 ↔ kT op = 1)) ∧ o.sg.length ≤ 5 := by
  rcases kT_cases op with ⟨_, h2⟩ | ⟨_, h2⟩ | ⟨_, h2⟩ | ⟨h1, _⟩
  · rcases h2 with rfl | rfl | rfl
    · exact ⟨_, rfl, rfl, by decide, by decide, by decide⟩
    · exact ⟨_, rfl, rfl, by decide, by decide, by decide⟩
    · exact absurd rfl h3
  · rcases h2 with rfl | rfl | rfl | rfl <;> exact ⟨_, rfl, rfl, by decide, by decide, by decide⟩
  · rcases h2 with rfl | rfl | rfl | rfl | rfl <;> exact ⟨_, rfl, rfl, by decide, by decide, by decide⟩
  · omega

/-- The text of the part that ends with a node, where it stands in a place that asks for so much. -/
def txF (e : List (Int × Int)) (N : List (List UInt8)) : Nat → Nat → Int → List UInt8
  | 0, _, _ => []
  | f + 1, at_, asked => match opO (e.getD at_ (0, 0)).1 with
    | none => N.getD (e.getD at_ (0, 0)).2.toNat []
    | some o =>
      let s := if o.rt = 0 then o.sg else if o.op = 4 then o.sg ++ txF e N f (kidsF e at_).1.toNat o.rt
        else if o.lf = 0 then o.sg ++ ([32] ++ txF e N f (kidsF e at_).1.toNat o.rt)
        else txF e N f (kidsF e at_).1.toNat o.lf ++ ([32] ++ (o.sg ++ ([32] ++ txF e N f (kidsF e at_).2.toNat o.rt)))
      if o.bd < asked then [40] ++ (s ++ [41]) else s
/-- The text without brackets. -/
def bareF (e : List (Int × Int)) (N : List (List UInt8)) (f at_ : Nat) (o : Opr) : List UInt8 :=
  if o.rt = 0 then o.sg else if o.op = 4 then o.sg ++ txF e N f (kidsF e at_).1.toNat o.rt
        else if o.lf = 0 then o.sg ++ ([32] ++ txF e N f (kidsF e at_).1.toNat o.rt)
        else txF e N f (kidsF e at_).1.toNat o.lf ++ ([32] ++ (o.sg ++ ([32] ++ txF e N f (kidsF e at_).2.toNat o.rt)))
theorem txF_none {e : List (Int × Int)} {N : List (List UInt8)} {f at_ : Nat} {asked : Int} (h : opO (e.getD at_ (0, 0)).1 = none) : txF e N (f + 1) at_ asked = N.getD (e.getD at_ (0, 0)).2.toNat [] := by
  rw [txF, h]
theorem txF_some {e : List (Int × Int)} {N : List (List UInt8)} {f at_ : Nat} {asked : Int} {o : Opr} (h : opO (e.getD at_ (0, 0)).1 = some o) : txF e N (f + 1) at_ asked = if o.bd < asked then [40] ++ (bareF e N f at_ o ++ [41]) else bareF e N f at_ o := by
  rw [txF, h]
  rfl
/-- The kinds of a node of a formula. -/
theorem node_of {e : List (Int × Int)} (h : wrF 0 e = 0) {i : Nat} (hi : i < e.length) :
    (∃ q, e.getD i (0, 0) = (3, q) ∧ 0 ≤ q ∧ q < 8 ∧ kidsF e i = (-1, -1)) ∨
    (∃ o, opO (e.getD i (0, 0)).1 = some o ∧ o ∈ opsQ ∧ o.sg.length ≤ 5 ∧ ((o.rt = 0 ∧ kidsF e i = (-1, -1)) ∨
      (o.rt ≠ 0 ∧ o.lf = 0 ∧ ∃ j v : Nat, i = j + 1 ∧ v ≤ j ∧ kidsF e i = ((j : Int), -1) ∧ (outF e e.length).getD i 0 = (v : Int) ∧ (outF e e.length).getD j 0 = (v : Int)) ∨
      (o.rt ≠ 0 ∧ o.lf ≠ 0 ∧ o.op ≠ 4 ∧ ∃ j q v : Nat, i = j + 1 ∧ q < j ∧ v ≤ q ∧ kidsF e i = ((q : Int), (j : Int)) ∧ (outF e e.length).getD i 0 = (v : Int) ∧ (outF e e.length).getD q 0 = (v : Int) ∧ (outF e e.length).getD j 0 = ((q + 1 : Nat) : Int)))) := by
  obtain ⟨st, h1, h2⟩ := Ok.of_is h i (by omega)
  have h3 := ndW_ok (h2 hi)
  have hkt : kT (e.getD i (0, 0)).1 = 0 ∧ kidsF e i = (-1, -1) ∨ kT (e.getD i (0, 0)).1 = 1 ∧ (kidsF e i).2 = -1 ∧ (kidsF e i).1 ≠ -1 ∨ kT (e.getD i (0, 0)).1 = 2 ∧ (kidsF e i).2 ≠ -1 := by
    have hr := kT_range (e.getD i (0, 0)).1
    have hk : kidsF e i = prt e i := by
      rw [kidsF_is h]
      unfold kidsK
      rw [if_pos ⟨by omega, by omega⟩]
      simp
    have h4 := h1.1.len
    rw [hk]
    unfold prt
    by_cases h0 : kT (e.getD i (0, 0)).1 = 0
    · left; exact ⟨h0, by rw [if_neg (by omega), if_neg (by omega)]⟩
    · right
      by_cases h1' : kT (e.getD i (0, 0)).1 = 1
      · left; rw [if_pos h1']; exact ⟨h1', rfl, by simp only; omega⟩
      · right
        rw [if_neg h1', if_pos (by omega)]
        exact ⟨by omega, by simp only; omega⟩
  by_cases hp : (e.getD i (0, 0)).1 = 3
  · left
    have h5 := h3.2.2 hp
    refine ⟨(e.getD i (0, 0)).2, ?_, h5.1, h5.2, ?_⟩
    · rw [← hp]
    · have hk0 : kT (e.getD i (0, 0)).1 = 0 := by rw [hp]; decide
      rcases hkt with ⟨_, h6⟩ | ⟨h6, _⟩ | ⟨h6, _⟩
      · exact h6
      · omega
      · omega
  · right
    obtain ⟨o, o1, o2, o3, o4, o5⟩ := opO_is h3.1 hp
    refine ⟨o, o1, (opO_mem o1).1, o5, ?_⟩
    rcases whole_of h hi with ⟨g1, g2⟩ | ⟨j, v, g1, g2, g3, g4, g5⟩ | ⟨j, q, v, g1, g2, g3, g4, g5, g6, g7⟩
    · left
      rcases hkt with ⟨h6, _⟩ | ⟨_, _, h6⟩ | ⟨_, h6⟩
      · exact ⟨o3.2 h6, g1⟩
      · rw [g1] at h6; exact absurd rfl h6
      · rw [g1] at h6; exact absurd rfl h6
    · right; left
      have h6 : kT (e.getD i (0, 0)).1 = 1 := by
        rcases hkt with ⟨_, h6⟩ | ⟨h6, _⟩ | ⟨_, h6⟩
        · rw [g3] at h6; injection h6 with h7 _; omega
        · exact h6
        · rw [g3] at h6; exact absurd rfl h6
      have h7 : o.rt ≠ 0 := fun h => by have := o3.1 h; omega
      exact ⟨h7, (o4 h7).2 h6, j, v, g1, g2, g3, g4, g5⟩
    · right; right
      have h6 : kT (e.getD i (0, 0)).1 = 2 := by
        rcases hkt with ⟨_, h6⟩ | ⟨_, h6, _⟩ | ⟨h6, _⟩
        · rw [g4] at h6; injection h6 with h7 _; omega
        · rw [g4] at h6; simp only at h6; omega
        · exact h6
      have h7 : o.rt ≠ 0 := fun h => by have := o3.1 h; omega
      refine ⟨h7, fun h => by have := (o4 h7).1 h; omega, fun h => ?_, j, q, v, g1, g2, g3, g4, g5, g6, g7⟩
      rw [o2] at h
      rw [h] at h6
      exact absurd h6 (by decide)
/-- A text is no longer than 25 bytes a node. -/
theorem txF_len {e : List (Int × Int)} {N : List (List UInt8)} (h : wrF 0 e = 0) (hN : ∀ i q, i < e.length → e.getD i (0, 0) = (3, q) → (N.getD q.toNat []).length ≤ 16) : ∀ (f i : Nat) (a : Int) (v : Nat), i < e.length → (outF e e.length).getD i 0 = (v : Int) → v ≤ i → (txF e N f i a).length ≤ 25 * (i + 1 - v)
  | 0, i, a, v, _, _, _ => by simp [txF]
  | f + 1, i, a, v, hi, hv, hvi => by
    rcases node_of h hi with ⟨q, h1, _, _, _⟩ | ⟨o, h1, _, h3, h4⟩
    · rw [txF_none (by rw [h1]; exact opO_3)]
      have hlen : (N.getD (e.getD i (0, 0)).2.toNat []).length ≤ 16 := by
        rw [h1]
        exact hN i q hi h1
      omega
    · have hb : (bareF e N f i o).length ≤ 25 * (i + 1 - v) - 2 := by
        unfold bareF
        rcases h4 with ⟨g1, _⟩ | ⟨g1, g2, j, v2, rfl, g4, g5, g6, g7⟩ | ⟨g1, g2, g3, j, q, v2, rfl, g4, g5, g6, g7, g8, g9⟩
        · rw [if_pos g1]; omega
        · have hvv : v2 = v := by rw [g6] at hv; omega
          subst hvv
          have ih := txF_len h hN f j o.rt v2 (by omega) g7 g4
          rw [if_neg g1, g5]
          simp only [Int.toNat_natCast]
          by_cases h44 : o.op = 4
          · rw [if_pos h44, List.length_append]; omega
          · rw [if_neg h44, if_pos g2]; simp only [List.length_append, List.length_singleton]; omega
        · have hvv : v2 = v := by rw [g7] at hv; omega
          subst hvv
          have ih1 := txF_len h hN f q o.lf v2 (by omega) g8 g5
          have ih2 := txF_len h hN f j o.rt (q + 1) (by omega) g9 (by omega)
          rw [if_neg g1, if_neg g3, if_neg g2, g6]
          simp only [Int.toNat_natCast, List.length_append, List.length_singleton]
          omega
      rw [txF_some h1]
      split
      · simp only [List.length_append, List.length_singleton]; omega
      · omega
end Go.Proofs.YtgnflnfajkoibaaDoor.tx
namespace Go.Proofs.YtgnflnfajkoibaaDoor.tx

/-- What the reader keeps: does a part begin (else it goes on), the nodes read, the operations that wait (the last one last). -/
structure Rd where
  bg : Bool
  nd : List (Int × Int)
  pd : List Opr
/-- An open bracket. -/
def brO : Opr := ⟨0, [], 0, 0, 0⟩
/-- The operations that do not go on by what binds so, the last one first: their nodes, and what is left. P: the last one first. -/
def stF (b : Int) : List Opr → List (Int × Int) × List Opr
  | [] => ([], [])
  | o :: P => if b < o.rt then ((o.op, 0) :: (stF b P).1, (stF b P).2) else ([], o :: P)
/-- settle. -/
def setF (b : Int) (S : Rd) : Rd := ⟨S.bg, S.nd ++ (stF b S.pd.reverse).1, (stF b S.pd.reverse).2.reverse⟩
def leafF (n : Int × Int) (S : Rd) : Rd := ⟨false, S.nd ++ [n], S.pd⟩
/-- begin at a text; pr: the proposition that it is. -/
def bgF (pr : Option Nat) (s : List UInt8) (S : Rd) : Bool × Rd := match pr with
  | some i => (true, leafF (3, (i : Int)) S)
  | none => if s = [40] then (true, ⟨S.bg, S.nd, S.pd ++ [brO]⟩) else match wrO s with
    | none => (false, S)
    | some o => if 0 < o.lf then (false, S) else if 0 < o.rt then (true, ⟨S.bg, S.nd, S.pd ++ [o]⟩) else (true, leafF (o.op, 0) S)
/-- shut. -/
def shF (S : Rd) : Bool × Rd := if (setF 0 S).pd = [] then (false, setF 0 S) else (true, ⟨S.bg, (setF 0 S).nd, (setF 0 S).pd.dropLast⟩)
/-- goOn at a text of a kind (0: the end). -/
def goF (k : Int) (s : List UInt8) (S : Rd) : Bool × Rd := match wrO s with
  | some o => if 0 < o.lf then (true, ⟨true, (setF o.bd S).nd, (setF o.bd S).pd ++ [o]⟩) else (if s = [41] then shF S else if k = 0 then (decide ((setF 0 S).pd = []), setF 0 S) else (false, S))
  | none => if s = [41] then shF S else if k = 0 then (decide ((setF 0 S).pd = []), setF 0 S) else (false, S)
/-- The next step at a token. -/
def stepF (pr : List UInt8 → Option Nat) (k : Int) (s : List UInt8) (S : Rd) : Bool × Rd := if S.bg = true then bgF (pr s) s S else goF k s S

theorem stF_len (b : Int) : ∀ P, (stF b P).1.length + (stF b P).2.length = P.length
  | [] => rfl
  | o :: P => by
    unfold stF
    have := stF_len b P
    split
    · simp only [List.length_cons]; omega
    · simp
theorem set_len (b : Int) (S : Rd) : (setF b S).nd.length + (setF b S).pd.length = S.nd.length + S.pd.length := by
  have := stF_len b S.pd.reverse
  unfold setF
  simp only [List.length_append, List.length_reverse] at *
  omega
/-- One step makes no more than one thing more. -/
theorem step_len (pr : List UInt8 → Option Nat) (k : Int) (s : List UInt8) (S : Rd) : (stepF pr k s S).2.nd.length + (stepF pr k s S).2.pd.length ≤ S.nd.length + S.pd.length + 1 := by
  have hs := fun b => set_len b S
  unfold stepF
  split
  · unfold bgF leafF
    split
    · simp; omega
    · split
      · simp; omega
      · split
        · simp
        · split
          · simp
          · split <;> (simp; omega)
  · have h0 := hs 0
    have hsh : (shF S).2.nd.length + (shF S).2.pd.length ≤ S.nd.length + S.pd.length + 1 := by
      unfold shF
      split
      · simp only; omega
      · simp only [List.length_dropLast]; omega
    unfold goF
    split
    · rename_i o _
      have h1 := hs o.bd
      split
      · simp only [List.length_append, List.length_singleton]; omega
      · split
        · exact hsh
        · split
          · simp only; omega
          · simp only; omega
    · split
      · exact hsh
      · split
        · simp only; omega
        · simp only; omega
/-- All tokens: where it stops (how many were taken), and what is kept. -/
def runF (pr : List UInt8 → Option Nat) : List (Int × List UInt8) → Rd → Nat × Bool × Rd
  | [], S => (0, true, S)
  | (k, s) :: T, S => if (stepF pr k s S).1 = true then ((runF pr T (stepF pr k s S).2).1 + 1, (runF pr T (stepF pr k s S).2).2) else (0, false, (stepF pr k s S).2)
def rd0 : Rd := ⟨true, [], []⟩
end Go.Proofs.YtgnflnfajkoibaaDoor.tx
namespace Go.Proofs.YtgnflnfajkoibaaDoor
open Go.ChangeShapes Go.WideShapes Go.ChangeAt Go.RowKit

/-- A region whose first n operations only read, and whose others stand in one order: the draw's world under a name of its own. -/
theorem still_tail_at {P : Program} {id : Nat} {Q : Exit → Act → World → Prop} {a : Act} {w : World} {l : List Oper} (n : Nat) (hm : P.follows .mixedOrders = true) (hB : Region.lexTailB .any l.toArray n = true)
    (h : ∀ W, W = w.drew → wpStill P l.toArray W (fun a' => wpList P l.toArray Q (l.drop n) a' W) (l.take n) a) : (Code.region id l.toArray true).wp P Q a w := wp_region_still_tail n hm hB (h _ rfl)

/-- A slice of ints at address A (nil let in) reads as zs. -/
def IA (w : World) (A : Option Addr) (zs : List Int) : Prop :=
  0 < zs.length → ∃ b off, A = some ⟨b, off, none⟩ ∧ b < w.heap.size ∧ ∀ i, i < zs.length → w.cell? ⟨b, off + i, none⟩ = some (.int .i64 (zs.getD i 0))

/-- All numbers are ints of 64 bits. -/
def W64 (zs : List Int) : Prop := ∀ z ∈ zs, -9223372036854775808 ≤ z ∧ z ≤ 9223372036854775807

theorem W64.at_ {zs : List Int} (h : W64 zs) (i : Nat) : -9223372036854775808 ≤ zs.getD i 0 ∧ zs.getD i 0 ≤ 9223372036854775807 := by
  by_cases hi : i < zs.length
  · have e : zs.getD i 0 = zs[i] := by simp [List.getD, hi]
    rw [e]; exact h _ (List.getElem_mem hi)
  · have e : zs.getD i 0 = 0 := by simp [List.getD, hi]
    rw [e]; omega

theorem IA.keep {w w' : World} {A : Option Addr} {zs : List Int} (h : IA w A zs) (hs : w.heap.size ≤ w'.heap.size) (hk : ∀ p : Addr, p.block < w.heap.size → w'.cell? p = w.cell? p) : IA w' A zs := fun hn => by
  obtain ⟨b, off, e, hb, hc⟩ := h hn
  exact ⟨b, off, e, Nat.lt_of_lt_of_le hb hs, fun i hi => (hk ⟨b, off + i, none⟩ hb).trans (hc i hi)⟩
theorem IA.below {w w' : World} {A : Option Addr} {zs : List Int} (h : IA w A zs) (hb : Below w.heap.size w w') : IA w' A zs := h.keep hb.size fun _ hp => hb.cell hp
theorem IA.nil (w : World) (A : Option Addr) : IA w A [] := fun h => absurd h (by simp)
theorem IA.drewN {w : World} {A : Option Addr} {zs : List Int} (h : IA w A zs) (n : Nat) : IA (w.drewN n) A zs := h

theorem IA.alloc {w : World} {A : Option Addr} {zs : List Int} (h : IA w A zs) (o : Obj) : IA (w.alloc o) A zs := h.below ((Below.refl _ _).alloc (Nat.le_refl _) _)
theorem ia_lit (w : World) (zs : List Int) (c : Array Value) (t : TypeId) (hc : c = (zs.map (Value.int .i64)).toArray) : IA (w.alloc (.cells c t)) (some ⟨w.heap.size, 0, none⟩) zs := fun _ => by
  have h := World.rowIs_alloc w c t (fun i => .int .i64 (zs.getD i 0)) (fun i hi => by subst hc; simp at hi; simp [List.getD, hi])
  refine ⟨_, 0, rfl, h.lt, fun i hi => ?_⟩
  have := h.cell (i := i) (by subst hc; simpa using hi)
  rw [Nat.zero_add]; exact this

theorem ret_bool {a b : Bool} (h : a = b) : Ending.returned (.bool a) = .returned (.bool b) := by rw [h]
theorem ret_int {a b : Int} (h : a = b) : Ending.returned (.int .i64 a) = .returned (.int .i64 b) := by rw [h]
theorem below_drewN {B : Nat} {a w : World} (h : Below B a w) (n : Nat) : Below B a (w.drewN n) := ⟨h.os, h.tape, h.output, h.size, h.block⟩
end Go.Proofs.YtgnflnfajkoibaaDoor
