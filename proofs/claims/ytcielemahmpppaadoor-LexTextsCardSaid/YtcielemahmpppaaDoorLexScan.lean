/- What is told of a text: tokens, place, error; without the program. -/
import Derived.Test.YtcielemahmpppaaDoorLexStop
namespace Go.Proofs.YtcielemahmpppaaDoor.lx
open Go.ChangeShapes Go.WideShapes Go.ChangeAt Go.RowKit Go.Deep

/-- A token. -/
structure Tok where
  kind : Nat
  num : Int
  pos : Nat
  text : ByteArray
/-- The token that a text begins with: its kind, number, bytes; or why there is none; nm: what the digits are worth, and whether they are worth anything. -/
def firstP (nm : List UInt8 → Int × Bool) (s : ByteArray) : Except Nat (Nat × Int × Nat) :=
  if 16 < wordN s then .error 6 else if 0 < wordN s then .ok (1, 0, wordN s)
  else if 0 < digN s then (if (nm (s.extract 0 (digN s)).data.toList).2 = true then .ok (2, (nm (s.extract 0 (digN s)).data.toList).1, digN s) else .error 10)
  else if 0 < signN s then .ok (3, 0, signN s) else .error 13
def blankB (b : Nat) : Bool := b == 32 || b == 10
def lineE (s : ByteArray) (a : Nat) : Nat := runE (fun b => !decide (b = 10)) s s.size a
/-- What is told of a text: the tokens, a place, an error's number. -/
abbrev Res := List Tok × Nat × Nat
/-- From a place on, with these tokens met, this is told. -/
inductive Sc (nm : List UInt8 → Int × Bool) (s : ByteArray) : Nat → List Tok → Res → Prop
  | done {a : Nat} {l : List Tok} (h : s.size ≤ a) : Sc nm s a l (l, 0, 0)
  | blank {a : Nat} {l : List Tok} {r : Res} (h : a < s.size) (hb : blankB (bt s a) = true) (hh : Sc nm s (a + 1) l r) : Sc nm s a l r
  | remark {a : Nat} {l : List Tok} {r : Res} (h : a < s.size) (hb : bt s a = 35) (hh : Sc nm s (lineE s a) l r) : Sc nm s a l r
  | many {a : Nat} {l : List Tok} (h : a < s.size) (hb : blankB (bt s a) = false) (hr : bt s a ≠ 35) (hl : l.length = 6000) : Sc nm s a l ([], a, 11)
  | wrong {a : Nat} {l : List Tok} {why : Nat} (h : a < s.size) (hb : blankB (bt s a) = false) (hr : bt s a ≠ 35) (hl : l.length ≠ 6000) (hf : firstP nm (tailS s a) = .error why) : Sc nm s a l ([], a, why)
  | token {a : Nat} {l : List Tok} {k : Nat} {n : Int} {m : Nat} {r : Res} (h : a < s.size) (hb : blankB (bt s a) = false) (hr : bt s a ≠ 35) (hl : l.length ≠ 6000) (hf : firstP nm (tailS s a) = .ok (k, n, m)) (hh : Sc nm s (a + m) (l ++ [⟨k, n, a, s.extract a (a + m)⟩]) r) : Sc nm s a l r
theorem not_blank35 {b : Nat} (h : blankB b = true) : b ≠ 35 := fun e => by subst e; revert h; decide
/-- One thing is told. -/
theorem Sc.one {nm : List UInt8 → Int × Bool} {s : ByteArray} {a : Nat} {l : List Tok} {r r' : Res} (h : Sc nm s a l r) : Sc nm s a l r' → r = r' := by
  induction h with
  | done h1 => intro k; cases k with
    | done => rfl
    | blank h => omega
    | remark h => omega
    | many h => omega
    | wrong h => omega
    | token h => omega
  | blank h1 hb _ ih => intro k; cases k with
    | done => omega
    | blank _ _ hh => exact ih hh
    | remark _ h => exact absurd h (not_blank35 hb)
    | many _ h => rw [hb] at h; cases h
    | wrong _ h => rw [hb] at h; cases h
    | token _ h => rw [hb] at h; cases h
  | remark h1 hb _ ih => intro k; cases k with
    | done => omega
    | blank _ h => exact absurd hb (not_blank35 h)
    | remark _ _ hh => exact ih hh
    | many _ _ h => exact absurd hb h
    | wrong _ _ h => exact absurd hb h
    | token _ _ h => exact absurd hb h
  | many h1 hb hr hl => intro k; cases k with
    | done => omega
    | blank _ h => rw [hb] at h; cases h
    | remark _ h => exact absurd h hr
    | many => rfl
    | wrong _ _ _ h => exact absurd hl h
    | token _ _ _ h => exact absurd hl h
  | wrong h1 hb hr hl hf => intro k; cases k with
    | done => omega
    | blank _ h => rw [hb] at h; cases h
    | remark _ h => exact absurd h hr
    | many _ _ _ h => exact absurd h hl
    | wrong _ _ _ _ h => rw [hf] at h; cases h; rfl
    | token _ _ _ _ h => rw [hf] at h; cases h
  | token h1 hb hr hl hf _ ih => intro k; cases k with
    | done => omega
    | blank _ h => rw [hb] at h; cases h
    | remark _ h => exact absurd h hr
    | many _ _ _ h => exact absurd h hl
    | wrong _ _ _ _ h => rw [hf] at h; cases h
    | token _ _ _ _ h hh => rw [hf] at h; cases h; exact ih hh
theorem wB_low {b : Nat} (h : wB b = true) : b < 128 := by
  rcases Nat.lt_or_ge b 128 with h1 | h1
  · exact h1
  · unfold wB at h
    rw [letB_high h1, digB_high h1, decide_eq_false (show ¬ b = 95 by omega)] at h
    cases h
theorem twoB_low {a b : Nat} (h : twoB a b = true) : a < 128 ∧ b < 128 := by
  unfold twoB at h
  simp only [Bool.or_eq_true, Bool.and_eq_true, beq_iff_eq] at h
  omega
theorem oneB_low {a : Nat} (h : oneB a = true) : a < 128 := by
  unfold oneB at h
  simp only [Bool.or_eq_true, beq_iff_eq] at h
  omega
/-- A token has a byte or more, lies in the text, and has bytes of Ascii alone. -/
theorem first_ok {nm : List UInt8 → Int × Bool} {s : ByteArray} {a k m : Nat} {n : Int} (h : a < s.size) (hf : firstP nm (tailS s a) = .ok (k, n, m)) : 0 < m ∧ a + m ≤ s.size ∧ ∀ i, a ≤ i → i < a + m → bt s i < 128 := by
  have hw := wordN_eq s a h
  have hd := digN_eq s a h
  have hz : (tailS s a).size = s.size - a := tail_size
  unfold firstP at hf
  split at hf
  · cases hf
  · split at hf
    · rename_i h1 h2
      injection hf with hf
      injection hf with _ hf
      injection hf with _ hf
      subst hf
      by_cases hl : letB (bt s a) = true
      · rw [if_pos hl] at hw
        obtain ⟨_, g2, g3, _⟩ := runE_spec wB s s.size a (by omega) (by omega)
        rw [← hw] at g2 g3
        exact ⟨h2, g2, fun i e1 e2 => wB_low (g3 i e1 e2)⟩
      · rw [if_neg hl] at hw
        omega
    · split at hf
      · rename_i h1 h2 h3
        split at hf
        · injection hf with hf
          injection hf with _ hf
          injection hf with _ hf
          subst hf
          obtain ⟨_, g2, g3, _⟩ := runE_spec (fun b => digB b) s s.size a (by omega) (by omega)
          rw [← hd] at g2 g3
          refine ⟨h3, g2, fun i e1 e2 => ?_⟩
          rcases Nat.lt_or_ge (bt s i) 128 with h5 | h5
          · exact h5
          · have := g3 i e1 e2
            rw [show digB (bt s i) = false from digB_high h5] at this
            cases this
        · cases hf
      · split at hf
        · rename_i h1 h2 h3 h4
          injection hf with hf
          injection hf with _ hf
          injection hf with _ hf
          subst hf
          have hb0 : bt (tailS s a) 0 = bt s a := by rw [tail_bt (by omega)]; rfl
          unfold signN at h4 ⊢
          by_cases c2 : 1 < (tailS s a).size ∧ twoB (bt (tailS s a) 0) (bt (tailS s a) 1) = true
          · rw [if_pos c2]
            obtain ⟨l0, l1⟩ := twoB_low c2.2
            have hb1 : bt (tailS s a) 1 = bt s (a + 1) := tail_bt (by omega)
            rw [hb0] at l0
            rw [hb1] at l1
            refine ⟨by omega, by omega, fun i e1 e2 => ?_⟩
            obtain rfl | rfl : i = a ∨ i = a + 1 := by omega
            · exact l0
            · exact l1
          · rw [if_neg c2] at h4 ⊢
            by_cases c1 : 0 < (tailS s a).size ∧ oneB (bt (tailS s a) 0) = true
            · rw [if_pos c1]
              have l0 := oneB_low c1.2
              rw [hb0] at l0
              refine ⟨by omega, by omega, fun i e1 e2 => ?_⟩
              obtain rfl : i = a := by omega
              exact l0
            · rw [if_neg c1] at h4
              omega
        · cases hf
/-- The runes come to the end of a token, of a remark. -/
theorem token_hits {nm : List UInt8 → Int × Bool} {s : ByteArray} {a k m : Nat} {n : Int} (h : a < s.size) (hf : firstP nm (tailS s a) = .ok (k, n, m)) : Hits s a (a + m) := by
  obtain ⟨_, h2, h3⟩ := first_ok h hf
  exact hits_all s m a (a + m) rfl h2 h3
theorem remark_hits {s : ByteArray} {a : Nat} (h : a < s.size) : Hits s a (lineE s a) ∧ lineE s a ≤ s.size := by
  obtain ⟨g1, g2, g3, g4⟩ := runE_spec (fun b => !decide (b = 10)) s s.size a (by omega) (by omega)
  unfold lineE
  refine ⟨hits_low s s.size a _ (by omega) g1 g2 (fun hlt => ?_), g2⟩
  have := g4 hlt
  simp at this
  omega
end Go.Proofs.YtcielemahmpppaaDoor.lx
