/- The edges of the turned graph are the edges turned about. -/
import Derived.Test.YtnfiohekdbjgoaaSccLfd
import Derived.Test.YtnfiohekdbjgoaaTurnF
namespace Go.Proofs.Ytnfiohekdbjgoaa.sc
open Go.ChangeShapes Go.WideShapes Go.ChangeAt Go.RowKit

theorem rowL_in {n a : Nat} {row : List (Int × Int)} {x : Nat × (Int × Int)} : x ∈ rowL n a row ↔ x.1 = a ∧ x.2 ∈ row ∧ nodeB n x.2.1 = true := by
  unfold rowL
  rw [List.mem_map]
  constructor
  · rintro ⟨e, he, rfl⟩
    exact ⟨rfl, (List.mem_filter.1 he).1, (List.mem_filter.1 he).2⟩
  · rintro ⟨h1, h2, h3⟩
    exact ⟨x.2, List.mem_filter.2 ⟨h2, h3⟩, by rw [← h1]⟩
theorem leadTo_in {rows : List (List (Int × Int))} : ∀ {k : Nat} {x : Nat × (Int × Int)}, x ∈ leadTo rows k ↔ x.1 < k ∧ x.2 ∈ rows.getD x.1 [] ∧ nodeB rows.length x.2.1 = true
  | 0, x => by simp [leadTo]
  | k + 1, x => by
    rw [leadTo, List.mem_append, leadTo_in, rowL_in]
    constructor
    · rintro (⟨h1, h2⟩ | ⟨h1, h2⟩)
      · exact ⟨by omega, h2⟩
      · rw [h1]; exact ⟨by omega, h2⟩
    · rintro ⟨h1, h2⟩
      by_cases e : x.1 = k
      · exact .inr ⟨e, by rw [← e]; exact h2⟩
      · exact .inl ⟨by omega, h2⟩
theorem eR_mem {n : Nat} {rows : List (List (Int × Int))} {u x : Nat} : eR n rows u x ↔ x < n ∧ ∃ e ∈ rows.getD u [], e.1 = (x : Int) := by
  unfold eR
  generalize rows.getD u [] = row
  constructor
  · rintro ⟨h1, i, hi, h2⟩
    exact ⟨h1, _, List.getElem_mem hi, by rw [← h2]; simp [List.getD, hi]⟩
  · rintro ⟨h1, e, he, h2⟩
    obtain ⟨i, hi, rfl⟩ := List.mem_iff_getElem.1 he
    exact ⟨h1, i, hi, by rw [← h2]; simp [List.getD, hi]⟩
theorem eR_lt {n : Nat} {rows : List (List (Int × Int))} {u x : Nat} (hn : n = rows.length) (h : eR n rows u x) : u < n ∧ x < n := by
  refine ⟨?_, h.1⟩
  obtain ⟨_, e, he, _⟩ := eR_mem.1 h
  rcases Nat.lt_or_ge u rows.length with h1 | h1
  · omega
  · simp [List.getD, List.getElem?_eq_none h1] at he
theorem turn_one {n : Nat} {rows : List (List (Int × Int))} (hn : n = rows.length) (a b : Nat) : eR n (turnR rows) a b ↔ eR n rows b a := by
  subst hn
  rw [eR_mem, eR_mem]
  constructor
  · rintro ⟨h1, e, he, h2⟩
    by_cases ha : a < rows.length
    · have e0 : (turnR rows).getD a [] = turnL (leadTo rows rows.length) a := by simp [turnR, List.getD, ha]
      rw [e0] at he
      unfold turnL at he
      obtain ⟨x, hx, rfl⟩ := List.mem_map.1 he
      obtain ⟨hx1, hx2⟩ := List.mem_filter.1 hx
      have hx3 := leadTo_in.1 hx1
      have hxb : x.1 = b := by
        have h2 : (x.1 : Int) = (b : Int) := h2
        omega
      exact ⟨ha, x.2, by rw [← hxb]; exact hx3.2.1, of_decide_eq_true hx2⟩
    · have e0 : (turnR rows).getD a [] = [] := by simp [turnR, List.getD, List.getElem?_eq_none (show ((List.range rows.length).map (turnL (leadTo rows rows.length))).length ≤ a by simp; omega)]
      rw [e0] at he
      cases he
  · rintro ⟨h1, e, he, h2⟩
    have hb : b < rows.length := (eR_lt rfl (eR_mem.2 ⟨h1, e, he, h2⟩)).1
    have e0 : (turnR rows).getD a [] = turnL (leadTo rows rows.length) a := by simp [turnR, List.getD, h1]
    refine ⟨hb, ((b : Int), e.2), ?_, rfl⟩
    rw [e0]
    unfold turnL
    exact List.mem_map.2 ⟨(b, e), List.mem_filter.2 ⟨leadTo_in.2 ⟨hb, he, decide_eq_true ⟨by rw [h2]; exact Int.natCast_nonneg _, by rw [h2]; omega⟩⟩, by simpa using h2⟩, rfl⟩
theorem turn_eq {n : Nat} {rows : List (List (Int × Int))} (hn : n = rows.length) : eR n (turnR rows) = fun a b => eR n rows b a := by
  funext a b
  exact propext (turn_one hn a b)
theorem lead_most {rows : List (List (Int × Int))} {M : Nat} (h : ∀ i, (rows.getD i []).length ≤ M) : ∀ k, (leadTo rows k).length ≤ k * M
  | 0 => by simp [leadTo]
  | k + 1 => by
    have h1 := lead_most h k
    have h2 : (rowL rows.length k (rows.getD k [])).length ≤ (rows.getD k []).length := by
      unfold rowL
      rw [List.length_map]
      exact List.length_filter_le _ _
    have h3 := h k
    rw [leadTo, List.length_append, Nat.add_mul]
    omega
theorem turn_row {rows : List (List (Int × Int))} (i : Nat) : ((turnR rows).getD i []).length ≤ (leadTo rows rows.length).length := by
  by_cases h : i < rows.length
  · have e : (turnR rows).getD i [] = turnL (leadTo rows rows.length) i := by simp [turnR, List.getD, h]
    rw [e]
    unfold turnL
    rw [List.length_map]
    exact List.length_filter_le _ _
  · have e : (turnR rows).getD i [] = [] := by simp [turnR, List.getD, List.getElem?_eq_none (show ((List.range rows.length).map (turnL (leadTo rows rows.length))).length ≤ i by simp; omega)]
    rw [e]; simp
/-- Each node's number is the least that ways lead to and back from. -/
def OfL (n : Nat) (e : Nat → Nat → Prop) (L : List Int) : Prop := L.length = n ∧ ∀ i, i < n → ∃ m : Nat, L.getD i 0 = (m : Int) ∧ Least n e i m
theorem OfL.one {n : Nat} {e : Nat → Nat → Prop} {L M : List Int} (h : OfL n e L) (k : OfL n e M) : L = M := by
  apply List.ext_getElem (h.1.trans k.1.symm)
  intro i h1 h2
  obtain ⟨a, ha, ha2⟩ := h.2 i (by have := h.1; omega)
  obtain ⟨b, hb, hb2⟩ := k.2 i (by have := h.1; omega)
  have e1 : L.getD i 0 = L[i] := by simp [List.getD, h1]
  have e2 : M.getD i 0 = M[i] := by simp [List.getD, h2]
  rw [← e1, ← e2, ha, hb, ha2.one hb2]
end Go.Proofs.Ytnfiohekdbjgoaa.sc
