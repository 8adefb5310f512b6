/- Declarations, plain: what is right stays right without its last ones; one more that is like one of them. -/
import Derived.Test.YtodloljpfbkkjaaRRRRDeclAll
namespace Go.Proofs.YtodloljpfbkkjaaRRRR.dcl
open Go.Proofs.YtodloljpfbkkjaaRRRR.lx

section
variable {α : Type} {nm : α → ByteArray} {why : α → Int}
theorem declF_cons {most : Int} {seen : List ByteArray} {x : α} {r : List α} (h : (declF nm why most seen (x :: r)).2 = 0) :
    ¬ most ≤ seen.length ∧ nameB (nm x) = true ∧ seenB seen (nm x) = false ∧ why x = 0 ∧ (declF nm why most (seen ++ [nm x]) r).2 = 0 := by
  unfold declF at h
  split at h
  · simp at h
  · next h1 =>
    split at h
    · simp at h
    · next h2 =>
      split at h
      · simp at h
      · next h3 =>
        split at h
        · next h4 => exact absurd h h4
        · next h4 => exact ⟨h1, by simpa using h2, by simpa using h3, by simpa using h4, h⟩
theorem declF_step {most : Int} {seen : List ByteArray} {x : α} {r : List α} (h1 : ¬ most ≤ seen.length) (h2 : nameB (nm x) = true) (h3 : seenB seen (nm x) = false) (h4 : why x = 0) : declF nm why most seen (x :: r) = declF nm why most (seen ++ [nm x]) r := by
  conv => lhs; unfold declF
  rw [if_neg h1, if_neg (by rw [h2]; decide), if_neg (by rw [h3]; decide), if_neg (by simp [h4])]
theorem declF_take {most : Int} : ∀ (seen : List ByteArray) (r : List α) (k : Nat), (declF nm why most seen r).2 = 0 → (declF nm why most seen (r.take k)).2 = 0
  | _, [], k, _ => by simp [declF]
  | _, _ :: _, 0, _ => rfl
  | seen, x :: r, k + 1, h => by
    obtain ⟨h1, h2, h3, h4, h5⟩ := declF_cons h
    rw [List.take_succ_cons, declF_step h1 h2 h3 h4]
    exact declF_take _ r k h5
theorem declF_app {most most' : Int} (hmm : most ≤ most') : ∀ (seen : List ByteArray) (r : List α) (x : α), (declF nm why most seen r).2 = 0 → declF nm why most' seen (r ++ [x]) = declF nm why most' (seen ++ r.map nm) [x]
  | seen, [], x, _ => by simp
  | seen, y :: r, x, h => by
    obtain ⟨h1, h2, h3, h4, h5⟩ := declF_cons h
    rw [List.cons_append, declF_step (by omega) h2 h3 h4, declF_app hmm _ r x h5]
    simp
theorem declF_names {most : Int} : ∀ (seen : List ByteArray) (r : List α), (declF nm why most seen r).2 = 0 → ∀ x ∈ r, nameB (nm x) = true
  | _, [], _, x, hx => by simp at hx
  | seen, y :: r, h, x, hx => by
    obtain ⟨h1, h2, h3, h4, h5⟩ := declF_cons h
    rcases List.mem_cons.1 hx with rfl | hx
    · exact h2
    · exact declF_names _ r h5 x hx
theorem declF_len {most : Int} : ∀ (seen : List ByteArray) (r : List α), (declF nm why most seen r).2 = 0 → 0 < r.length → ((seen.length + r.length : Nat) : Int) ≤ most
  | _, [], _, h => absurd h (by simp)
  | seen, y :: r, h, _ => by
    obtain ⟨h1, h2, h3, h4, h5⟩ := declF_cons h
    by_cases hr : 0 < r.length
    · have := declF_len _ r h5 hr
      simp only [List.length_append, List.length_cons, List.length_nil] at this ⊢
      omega
    · simp only [List.length_cons]
      omega
theorem seenB_mem {seen : List ByteArray} {x : ByteArray} (h : x ∈ seen) : seenB seen x = true := by
  unfold seenB
  rw [List.any_eq_true]
  exact ⟨x, h, by simp⟩
/-- One more, like one of them. -/
theorem declF_twice {most most' : Int} (hmm : most ≤ most') (l : List α) (x : α) (h : (declF nm why most [] l).2 = 0) (hx : x ∈ l) : declF nm why most' [] (l ++ [x]) = if most' ≤ l.length then ((l.length : Int), 11) else ((l.length : Int), 7) := by
  rw [declF_app hmm [] l x h, List.nil_append]
  unfold declF
  rw [List.length_map, if_neg (c := nameB (nm x) = false) (by rw [declF_names [] l h x hx]; decide), if_pos (c := seenB (l.map nm) (nm x) = true) (seenB_mem (List.mem_map_of_mem hx))]
end
theorem varsF_eq (s : List ScR) (most : Int) (l : List VarR) (h : 0 ≤ most) : varsF s most l = declF VarR.name (whyV s) most [] l := by
  unfold varsF declAt
  rw [show max most 0 = most by omega]
  rfl
theorem scalarsF_eq (l : List ScR) : scalarsF l = declF ScR.name whyS 2 [] l := rfl
theorem chansF_eq (s : List ScR) (l : List ChR) : chansF s l = declF ChR.name (whyC s) 4 [] l := rfl
theorem vars_take {s : List ScR} {l : List VarR} (k : Nat) (h : (varsF s 12 l).2 = 0) : (varsF s 12 (l.take k)).2 = 0 := by
  rw [varsF_eq _ _ _ (by decide)] at h ⊢
  exact declF_take _ _ _ h
theorem vars_twice {s : List ScR} {l : List VarR} {x : VarR} (h : (varsF s 12 l).2 = 0) (hx : x ∈ l) : varsF s 13 (l ++ [x]) = ((l.length : Int), 7) := by
  rw [varsF_eq _ _ _ (by decide)] at h ⊢
  have hl := declF_len [] l h (List.length_pos_of_mem hx)
  rw [declF_twice (by decide) l x h hx, if_neg]
  simp only [List.length_nil, Nat.zero_add] at hl
  omega
theorem scalars_take {l : List ScR} (k : Nat) (h : (scalarsF l).2 = 0) : (scalarsF (l.take k)).2 = 0 := declF_take _ _ _ h
theorem scalars_twice {l : List ScR} {x : ScR} (h : (scalarsF l).2 = 0) (hx : x ∈ l) : scalarsF (l ++ [x]) = if (2 : Int) ≤ l.length then ((l.length : Int), 11) else ((l.length : Int), 7) := declF_twice (Int.le_refl _) l x h hx
theorem chans_take {s : List ScR} {l : List ChR} (k : Nat) (h : (chansF s l).2 = 0) : (chansF s (l.take k)).2 = 0 := declF_take _ _ _ h
theorem chans_twice {s : List ScR} {l : List ChR} {x : ChR} (h : (chansF s l).2 = 0) (hx : x ∈ l) : chansF s (l ++ [x]) = if (4 : Int) ≤ l.length then ((l.length : Int), 11) else ((l.length : Int), 7) := declF_twice (Int.le_refl _) l x h hx
end Go.Proofs.YtodloljpfbkkjaaRRRR.dcl
