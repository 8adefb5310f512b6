/- Expressions, plain: what a stack of numbers becomes, the kinds of nodes, their values. Nothing here speaks of the program. -/
namespace Go.Proofs.Ytgbnafakaaooiaa

/-- How many parts an operation takes; -1: it is none. -/
def takesZ (op : Int) : Int := if op = 3 ∨ op = 9 ∨ op = 10 then 1 else if 11 ≤ op ∧ op ≤ 19 then 2 else if 1 ≤ op ∧ op ≤ 8 then 0 else -1
/-- The kind of an operation's parts (-1: any one kind). -/
def opOf (op : Int) : Int := if op = 9 ∨ op = 18 ∨ op = 19 then 1 else if op = 14 ∨ op = 15 then -1 else 0
/-- The kind of what comes of them. -/
def opTo (op : Int) : Int := if op = 9 ∨ (14 ≤ op ∧ op ≤ 19) then 1 else 0
theorem takesZ_range (op : Int) : takesZ op = -1 ∨ takesZ op = 0 ∨ takesZ op = 1 ∨ takesZ op = 2 := by unfold takesZ; split <;> (try split) <;> (try split) <;> simp

/-- What a stack becomes by nodes, from node number k on: a number, and 0 or why there is none. -/
def runF (f : Nat → Int × Int → List Int → Int × Int) (most : Int) : Nat → List (Int × Int) → List Int → Int × Int
  | _, [], st => if st.length = 0 then (0, 4) else if 1 < st.length then (0, 5) else (st.getD 0 0, 0)
  | k, nd :: e, st =>
    if takesZ nd.1 < 0 then (0, 3) else if (st.length : Int) < takesZ nd.1 then (0, 4) else
    let r := f k nd (st.drop (st.length - (takesZ nd.1).toNat))
    if r.2 ≠ 0 then (0, r.2) else
    let st' := st.take (st.length - (takesZ nd.1).toNat) ++ [r.1]
    if most < st'.length then (0, 12) else runF f most (k + 1) e st'

theorem runF_end (f : Nat → Int × Int → List Int → Int × Int) (most : Int) (k : Nat) (st : List Int) : runF f most k [] st = if st.length = 0 then (0, 4) else if 1 < st.length then (0, 5) else (st.getD 0 0, 0) := rfl
theorem drop_at {α : Type} (d : α) {l : List α} {k : Nat} (h : k < l.length) : l.drop k = l.getD k d :: l.drop (k + 1) := by
  rw [List.drop_eq_getElem_cons h]
  simp [List.getD, h]

/-- What no operation is. -/
theorem run_form {f : Nat → Int × Int → List Int → Int × Int} {most : Int} {k : Nat} {e : List (Int × Int)} {st : List Int} (hk : k < e.length) (h : takesZ (e.getD k (0, 0)).1 < 0) : runF f most k (e.drop k) st = (0, 3) := by
  rw [drop_at (0, 0) hk, runF, if_pos h]
theorem run_short {f : Nat → Int × Int → List Int → Int × Int} {most : Int} {k : Nat} {e : List (Int × Int)} {st : List Int} (hk : k < e.length) (h : ¬ takesZ (e.getD k (0, 0)).1 < 0) (h2 : (st.length : Int) < takesZ (e.getD k (0, 0)).1) : runF f most k (e.drop k) st = (0, 4) := by
  rw [drop_at (0, 0) hk, runF, if_neg h, if_pos h2]
theorem run_why {f : Nat → Int × Int → List Int → Int × Int} {most : Int} {k t : Nat} {e : List (Int × Int)} {st : List Int} (hk : k < e.length) (h : takesZ (e.getD k (0, 0)).1 = t) (h2 : t ≤ st.length) (h3 : (f k (e.getD k (0, 0)) (st.drop (st.length - t))).2 ≠ 0) :
    runF f most k (e.drop k) st = (0, (f k (e.getD k (0, 0)) (st.drop (st.length - t))).2) := by
  rw [drop_at (0, 0) hk, runF, if_neg (by omega), if_neg (by omega), h]
  simp only [Int.toNat_natCast, if_pos h3]
theorem run_deep {f : Nat → Int × Int → List Int → Int × Int} {most : Int} {k t : Nat} {e : List (Int × Int)} {st : List Int} (hk : k < e.length) (h : takesZ (e.getD k (0, 0)).1 = t) (h2 : t ≤ st.length) (h3 : (f k (e.getD k (0, 0)) (st.drop (st.length - t))).2 = 0) (h4 : most < ((st.length - t : Nat) : Int) + 1) :
    runF f most k (e.drop k) st = (0, 12) := by
  rw [drop_at (0, 0) hk, runF, if_neg (by omega), if_neg (by omega), h]
  have e : (st.take (st.length - t) ++ [(f k (e.getD k (0, 0)) (st.drop (st.length - t))).1]).length = st.length - t + 1 := by simp
  simp only [Int.toNat_natCast, h3, ne_eq, not_true_eq_false, if_false, e]
  rw [if_pos (by omega)]
theorem run_next {f : Nat → Int × Int → List Int → Int × Int} {most : Int} {k t : Nat} {e : List (Int × Int)} {st : List Int} (hk : k < e.length) (h : takesZ (e.getD k (0, 0)).1 = t) (h2 : t ≤ st.length) (h3 : (f k (e.getD k (0, 0)) (st.drop (st.length - t))).2 = 0) (h4 : ¬ most < ((st.length - t : Nat) : Int) + 1) :
    runF f most k (e.drop k) st = runF f most (k + 1) (e.drop (k + 1)) (st.take (st.length - t) ++ [(f k (e.getD k (0, 0)) (st.drop (st.length - t))).1]) := by
  rw [drop_at (0, 0) hk, runF, if_neg (by omega), if_neg (by omega), h]
  have e : (st.take (st.length - t) ++ [(f k (e.getD k (0, 0)) (st.drop (st.length - t))).1]).length = st.length - t + 1 := by simp
  simp only [Int.toNat_natCast, h3, ne_eq, not_true_eq_false, if_false, e]
  rw [if_neg (by omega)]
end Go.Proofs.Ytgbnafakaaooiaa
