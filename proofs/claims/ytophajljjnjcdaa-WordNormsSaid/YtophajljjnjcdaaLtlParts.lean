/- Formulas, plain: the stacks of Spans, Kids, Props and Next. Nothing here speaks of the program. -/
import Derived.Test.YtophajljjnjcdaaLtlPure
namespace Go.Proofs.Ytophajljjnjcdaa.lt

theorem Pt.mem {out : List Int} {i : Nat} {st : List Int} (h : Pt out i st) : ∀ x ∈ st, ∃ j : Nat, j < i ∧ x = (j : Int) := by
  induction h with
  | nil => intro x hx; simp at hx
  | snoc i s st h1 h2 h3 h4 ih =>
    intro x hx
    rw [List.mem_append] at hx
    rcases hx with hx | hx
    · obtain ⟨j, hj, rfl⟩ := ih x hx
      exact ⟨j, by omega, rfl⟩
    · simp at hx
      exact ⟨i, by omega, hx⟩

/-- The beginnings of the parts that stand. -/
def bst (e : List (Int × Int)) (k : Nat) (pt : List Int) : List Int := pt.map (fun i => (outF e k).getD i.toNat 0)
theorem bst_len (e : List (Int × Int)) (k : Nat) (pt : List Int) : (bst e k pt).length = pt.length := by simp [bst]
theorem bst_next {e : List (Int × Int)} {k t : Nat} {pt : List Int} (h : Pt (outF e k) k pt) (ht : kT (e.getD k (0, 0)).1 = t) :
    bst e (k + 1) (pt.take (pt.length - t) ++ [(k : Int)]) = (bst e k pt).take (pt.length - t) ++ [bgn (outF e k) k t] := by
  unfold bst
  rw [List.map_append, ← List.map_take]
  congr 1
  · apply List.map_congr_left
    intro x hx
    obtain ⟨j, hj, rfl⟩ := h.mem x (List.mem_of_mem_take hx)
    exact outF_take e (by simpa using hj) (by omega)
  · simp only [List.map_cons, List.map_nil, Int.toNat_natCast]
    rw [outF_at e (by omega), ht]
    rfl
theorem bst_first {e : List (Int × Int)} {k t : Nat} {pt : List Int} (h : Pt (outF e k) k pt) (ht0 : 0 < t) (ht : t ≤ pt.length) (ht2 : t ≤ 2) :
    ((bst e k pt).drop (pt.length - t)).getD 0 0 = bgn (outF e k) k t := by
  obtain ⟨s, s1, s2, s3, _, s5, s6⟩ := h.takes ht ht2
  unfold bst
  rw [← List.map_drop]
  by_cases h1 : t = 1
  · obtain ⟨_, _, e1, e2⟩ := s5 h1
    rw [e1, s2]
    simpa [List.getD] using e2
  · obtain ⟨r, _, _, _, e1, _, e2⟩ := s6 (by omega)
    rw [e1, s2]
    simpa [List.getD] using e2

/-- The parts of node number j. -/
def prt (e : List (Int × Int)) (j : Nat) : Int × Int :=
  if kT (e.getD j (0, 0)).1 = 1 then ((j : Int) - 1, -1) else if kT (e.getD j (0, 0)).1 = 2 then ((outF e e.length).getD (j - 1) 0 - 1, (j : Int) - 1) else (-1, -1)
/-- What Kids knows after k nodes. -/
def kidsK (e : List (Int × Int)) (at_ : Int) (k : Nat) : Int × Int := if 0 ≤ at_ ∧ at_ < k then prt e at_.toNat else (-1, -1)
theorem kidsK_other {e : List (Int × Int)} {at_ : Int} {k : Nat} (h : at_ ≠ k) : kidsK e at_ (k + 1) = kidsK e at_ k := by
  unfold kidsK
  by_cases h1 : 0 ≤ at_ ∧ at_ < k
  · rw [if_pos h1, if_pos (by omega)]
  · rw [if_neg h1, if_neg (by omega)]
theorem kidsK_here (e : List (Int × Int)) (k : Nat) : kidsK e k (k + 1) = prt e k := by
  unfold kidsK
  rw [if_pos (by omega)]
  simp
theorem kidsK_before (e : List (Int × Int)) (k : Nat) : kidsK e k k = (-1, -1) := by
  unfold kidsK
  rw [if_neg (by omega)]
theorem prt_of {e : List (Int × Int)} {k t : Nat} {pt : List Int} (hk : k < e.length) (h : Pt (outF e k) k pt) (ht : kT (e.getD k (0, 0)).1 = t) (htl : t ≤ pt.length) :
    (t = 0 ∧ prt e k = (-1, -1) ∧ pt.drop (pt.length - t) = []) ∨ (∃ a, t = 1 ∧ prt e k = (a, -1) ∧ pt.drop (pt.length - t) = [a]) ∨ (∃ a b, t = 2 ∧ prt e k = (a, b) ∧ pt.drop (pt.length - t) = [a, b]) := by
  have hr := kT_range (e.getD k (0, 0)).1
  obtain ⟨s, s1, s2, s3, _, s5, s6⟩ := h.takes htl (by omega)
  unfold prt
  by_cases h0 : t = 0
  · subst h0
    exact .inl ⟨rfl, by rw [if_neg (by omega), if_neg (by omega)], by simp⟩
  · by_cases h1 : t = 1
    · obtain ⟨g1, _, e1, _⟩ := s5 h1
      refine .inr (.inl ⟨(k : Int) - 1, h1, by rw [if_pos (by omega)], ?_⟩)
      rw [e1]
      congr 1
      omega
    · obtain ⟨r, r1, r2, r3, e1, e2, e3⟩ := s6 (by omega)
      refine .inr (.inr ⟨(r : Int) - 1, (k : Int) - 1, by omega, ?_, ?_⟩)
      · rw [if_neg (by omega), if_pos (by omega), outF_take e (show k - 1 < k by omega) (by omega), e2]
      · rw [e1]
        congr 1
        · omega
        · congr 1
          omega
theorem kidsF_is {e : List (Int × Int)} {at_ : Int} (h : wrF 0 e = 0) : kidsF e at_ = kidsK e at_ e.length := by
  unfold kidsF kidsK prt
  have hi : isF e = true := isF_iff.2 h
  by_cases h1 : 0 ≤ at_ ∧ at_ < (e.length : Int)
  · obtain ⟨st, h2, h3⟩ := Ok.of_is h at_.toNat (by omega)
    have h4 := ndW_ok (h3 (by omega))
    have hr := kT_range (e.getD at_.toNat (0, 0)).1
    rw [if_pos h1]
    by_cases h0 : kT (e.getD at_.toNat (0, 0)).1 = 0
    · rw [if_neg (by omega), if_neg (by omega), if_neg (by omega)]
    · rw [if_pos ⟨hi, h1.1, h1.2, h0⟩]
      by_cases h5 : kT (e.getD at_.toNat (0, 0)).1 = 1
      · rw [if_pos h5, if_pos h5]
        congr 1
        omega
      · rw [if_neg h5, if_neg h5, if_pos (by omega), show (at_ - 1).toNat = at_.toNat - 1 by omega]
        congr 1
        omega
  · rw [if_neg h1, if_neg (by omega)]
theorem kidsF_not {e : List (Int × Int)} {at_ : Int} (h : wrF 0 e ≠ 0) : kidsF e at_ = (-1, -1) := by
  unfold kidsF
  rw [if_neg (fun h2 => h (isF_iff.1 h2.1))]
theorem spansL_is {e : List (Int × Int)} (h : wrF 0 e = 0) : spansL e = outF e e.length := if_pos (isF_iff.2 h)
theorem spansL_not {e : List (Int × Int)} (h : wrF 0 e ≠ 0) : spansL e = [] := if_neg (fun h2 => h (isF_iff.1 h2))

/-- The propositions of a node, of a row of sets, of the first k nodes. -/
def pn (x : Int × Int) : Nat := if x.1 = 3 then 1 <<< x.2.toNat else 0
def orL (l : List Nat) : Nat := l.foldr (· ||| ·) 0
def prK (e : List (Int × Int)) : Nat → Nat
  | 0 => 0
  | k + 1 => prK e k ||| pn (e.getD k (0, 0))
def propsF (e : List (Int × Int)) : Nat := if isF e = true then prK e e.length else 0
theorem orL_append : ∀ a b : List Nat, orL (a ++ b) = orL a ||| orL b
  | [], b => by simp [orL]
  | x :: a, b => by
    have ih := orL_append a b
    unfold orL at ih ⊢
    rw [List.cons_append, List.foldr_cons, ih, List.foldr_cons, Nat.or_assoc]
theorem orL_next {e : List (Int × Int)} {k t : Nat} {xs : List Nat} {r : Nat} (h : orL xs = prK e k) (hr : r = pn (e.getD k (0, 0)) ||| orL (xs.drop (xs.length - t))) :
    orL (xs.take (xs.length - t) ++ [r]) = prK e (k + 1) := by
  rw [orL_append, hr]
  show orL _ ||| (_ ||| 0) = prK e k ||| _
  rw [Nat.or_zero, ← h]
  conv => rhs; rw [← List.take_append_drop (xs.length - t) xs, orL_append]
  rw [Nat.or_assoc, Nat.or_comm (orL (xs.drop _))]
theorem or_lt256 {a b : Nat} (ha : a < 256) (hb : b < 256) : a ||| b < 256 := Nat.or_lt_two_pow (n := 8) ha hb
theorem orL_lt : ∀ l : List Nat, (∀ x ∈ l, x < 256) → orL l < 256
  | [], _ => by decide
  | x :: l, h => or_lt256 (h x (by simp)) (orL_lt l fun y hy => h y (by simp [hy]))
theorem pn_lt {x : Int × Int} (h : x.1 = 3 → 0 ≤ x.2 ∧ x.2 < 8) : pn x < 256 := by
  unfold pn
  by_cases h3 : x.1 = 3
  · rw [if_pos h3]
    obtain ⟨h1, h2⟩ := h h3
    rw [Nat.one_shiftLeft]
    exact Nat.pow_lt_pow_right (by decide) (show x.2.toNat < 8 by omega)
  · rw [if_neg h3]
    decide
theorem prK_lt {e : List (Int × Int)} (h : wrF 0 e = 0) : ∀ k, k ≤ e.length → prK e k < 256
  | 0, _ => (by decide : (0 : Nat) < 256)
  | k + 1, hk => by
    obtain ⟨st, _, h3⟩ := Ok.of_is h k (by omega)
    exact or_lt256 (prK_lt h k (by omega)) (pn_lt (ndW_ok (h3 (by omega))).2.2)

/-- Is there a next among the first k nodes? -/
def nxK (e : List (Int × Int)) (k : Nat) : Bool := (e.take k).any fun x => decide (x.1 = 8)
def nextF (e : List (Int × Int)) : Bool := isF e && nxK e e.length
theorem nxK_succ {e : List (Int × Int)} {k : Nat} (h : k < e.length) : nxK e (k + 1) = (nxK e k || decide ((e.getD k (0, 0)).1 = 8)) := by
  unfold nxK
  rw [List.take_succ_eq_append_getElem h, List.any_append]
  simp [List.getD, h]
theorem any_next {e : List (Int × Int)} {k t : Nat} {xs : List Bool} {r : Bool} (hk : k < e.length) (h : xs.any id = nxK e k) (hr : r = (decide ((e.getD k (0, 0)).1 = 8) || (xs.drop (xs.length - t)).any id)) :
    (xs.take (xs.length - t) ++ [r]).any id = nxK e (k + 1) := by
  rw [List.any_append, nxK_succ hk, ← h, hr]
  conv => rhs; rw [← List.take_append_drop (xs.length - t) xs, List.any_append]
  simp only [List.any_cons, List.any_nil, id_eq, Bool.or_false]
  cases (List.take (xs.length - t) xs).any id <;> cases (List.drop (xs.length - t) xs).any id <;> simp

/-- The untils among the first k nodes. -/
def utK (e : List (Int × Int)) : Nat → List Int
  | 0 => []
  | k + 1 => if (e.getD k (0, 0)).1 = 9 then utK e k ++ [(k : Int)] else utK e k
def untilsF (e : List (Int × Int)) : List Int := if isF e = true then utK e e.length else []
theorem utK_len (e : List (Int × Int)) : ∀ k, (utK e k).length ≤ k
  | 0 => Nat.le_refl _
  | k + 1 => by
    unfold utK
    have := utK_len e k
    split
    · simp; omega
    · omega
def notF (e : List (Int × Int)) : List (Int × Int) := if isF e = true then e ++ [(4, 0)] else []
end Go.Proofs.Ytophajljjnjcdaa.lt
