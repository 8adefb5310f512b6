/- Reading a number, a list, a text of bytes: plain lists. -/
import Derived.Test.YthakidnbgmpcfaaPut
namespace Go.Proofs.Ythakidnbgmpcfaa

/-- How many bytes from the first on are 128 or more, but no more than f. -/
def contN : Nat → List Int → Nat
  | 0, _ => 0
  | _ + 1, [] => 0
  | f + 1, x :: r => if 128 ≤ x then contN f r + 1 else 0
/-- The number that bytes make, seven bits each, the lowest first. -/
def dval : List Int → Nat
  | [] => 0
  | x :: r => (x % 128).toNat + 128 * dval r
def sgn (u : Nat) : Int := if u % 2 = 1 then -((u / 2 : Nat) : Int) - 1 else ((u / 2 : Nat) : Int)

/-- What is read: the fault (0 none), the thing, how many bytes. -/
structure Got (α : Type) where
  f : Int
  v : α
  k : Nat

def readN (l : List Int) : Got Int :=
  if contN 10 l < 10 ∧ l.length ≤ contN 10 l then ⟨4, 0, 0⟩
  else if contN 10 l = 10 ∨ (contN 10 l = 9 ∧ 1 < l.getD 9 0) ∨ (0 < contN 10 l ∧ l.getD (contN 10 l) 0 = 0) then ⟨3, 0, 0⟩
  else ⟨0, sgn (dval (l.take (contN 10 l + 1))), contN 10 l + 1⟩

theorem contN_le : ∀ (f : Nat) (l : List Int), contN f l ≤ f ∧ contN f l ≤ l.length
  | 0, l => ⟨Nat.le_refl _, Nat.zero_le _⟩
  | _ + 1, [] => ⟨Nat.zero_le _, Nat.le_refl _⟩
  | f + 1, x :: r => by
    rw [contN]
    split
    · have := contN_le f r
      exact ⟨by omega, by simp only [List.length_cons]; omega⟩
    · exact ⟨Nat.zero_le _, Nat.zero_le _⟩
theorem contN_eq : ∀ (i f : Nat) (l : List Int), (∀ j, j < i → 128 ≤ l.getD j 0) → i ≤ l.length → i ≤ f → (i = f ∨ i = l.length ∨ l.getD i 0 < 128) → contN f l = i
  | 0, 0, _, _, _, _, _ => rfl
  | 0, _ + 1, [], _, _, _, _ => rfl
  | 0, f + 1, x :: r, _, _, _, h => by
    have hx : x < 128 := by
      rcases h with h | h | h
      · omega
      · simp at h
      · exact h
    rw [contN, if_neg (by omega)]
  | _ + 1, 0, _, _, _, h, _ => by omega
  | _ + 1, _ + 1, [], _, h, _, _ => by simp at h
  | i + 1, f + 1, x :: r, ha, hl, hf, h => by
    have h0 : 128 ≤ x := ha 0 (by omega)
    rw [contN, if_pos h0, contN_eq i f r (fun j hj => ha (j + 1) (by omega)) (by simpa using hl) (by omega) (by
      rcases h with h | h | h
      · exact .inl (by omega)
      · exact .inr (.inl (by simpa using h))
      · exact .inr (.inr h))]
theorem contN_spec : ∀ (f : Nat) (l : List Int), (∀ j, j < contN f l → 128 ≤ l.getD j 0) ∧ (contN f l < f → contN f l < l.length → l.getD (contN f l) 0 < 128)
  | 0, l => ⟨fun j hj => by rw [contN] at hj; omega, fun h => by rw [contN] at h; omega⟩
  | _ + 1, [] => ⟨fun j hj => by rw [contN] at hj; omega, fun _ h => by simp at h⟩
  | f + 1, x :: r => by
    have ih := contN_spec f r
    by_cases hx : 128 ≤ x
    · rw [contN, if_pos hx]
      refine ⟨fun j hj => ?_, fun h1 h2 => ?_⟩
      · cases j with
        | zero => exact hx
        | succ j => exact ih.1 j (by omega)
      · exact ih.2 (by omega) (by simpa using h2)
    · rw [contN, if_neg hx]
      exact ⟨fun j hj => by omega, fun _ _ => by show x < 128; omega⟩

theorem dval_append : ∀ (a b : List Int), dval (a ++ b) = dval a + 128 ^ a.length * dval b
  | [], b => by simp [dval]
  | x :: a, b => by
    simp only [List.cons_append, dval, dval_append a b, List.length_cons, Nat.pow_succ]
    rw [Nat.mul_add, ← Nat.mul_assoc, Nat.mul_comm 128 (128 ^ a.length), Nat.add_assoc]
theorem dval_lt : ∀ (a : List Int), dval a < 128 ^ a.length
  | [] => by simp [dval]
  | x :: a => by
    have := dval_lt a
    simp only [dval, List.length_cons, Nat.pow_succ]
    have h1 : (x % 128).toNat < 128 := by omega
    omega
theorem dval_snoc (l : List Int) (k : Nat) (h : k < l.length) : dval (l.take (k + 1)) = dval (l.take k) + 128 ^ k * (l.getD k 0 % 128).toNat := by
  rw [List.take_succ_eq_append_getElem h, dval_append]
  simp [dval, List.getD, h, Nat.min_eq_left (Nat.le_of_lt h)]

/-- There and back in the sign. -/
theorem sgn_uns (n : Int) : sgn (unsN n) = n := by
  unfold sgn unsN
  by_cases h : n < 0
  · rw [if_pos h, if_pos (by omega)]; omega
  · rw [if_neg h, if_neg (by omega)]; omega
theorem uns_sgn (u : Nat) : unsN (sgn u) = u := by
  unfold sgn unsN
  by_cases h : u % 2 = 1
  · rw [if_pos h, if_pos (by omega)]; omega
  · rw [if_neg h, if_neg (by omega)]; omega

/-- What the bytes of a number are: all but the last 128 or more, the last below, and above 0 if one is ahead. -/
theorem encU_shape (u : Nat) : (∀ j, j + 1 < (encU u).length → 128 ≤ (encU u).getD j 0) ∧ (encU u).getD ((encU u).length - 1) 0 < 128 ∧ 0 ≤ (encU u).getD ((encU u).length - 1) 0 ∧ (1 < (encU u).length → 0 < (encU u).getD ((encU u).length - 1) 0) ∧ dval (encU u) = u := by
  induction u using Nat.strongRecOn with
  | _ u ih =>
    by_cases hu : u < 128
    · rw [encU_small hu]
      refine ⟨fun j hj => by simp at hj, ?_, ?_, fun h => by simp at h, ?_⟩
      · simp; omega
      · simp
      · simp [dval]; omega
    · have hb := encU_big (u := u) (by omega)
      obtain ⟨i1, i2, i3, i4, i5⟩ := ih (u / 128) (by omega)
      have hp := encU_pos (u / 128)
      rw [hb]
      have hl : ((u % 128 + 128 : Nat) : Int) :: encU (u / 128) = [((u % 128 + 128 : Nat) : Int)] ++ encU (u / 128) := rfl
      have hlast : (((u % 128 + 128 : Nat) : Int) :: encU (u / 128)).getD ((((u % 128 + 128 : Nat) : Int) :: encU (u / 128)).length - 1) 0 = (encU (u / 128)).getD ((encU (u / 128)).length - 1) 0 := by
        rw [List.length_cons, Nat.add_sub_cancel]
        obtain ⟨m, hm⟩ : ∃ m, (encU (u / 128)).length = m + 1 := ⟨_, (Nat.succ_pred_eq_of_pos hp).symm⟩
        rw [hm]
        rfl
      rw [hlast]
      refine ⟨fun j hj => ?_, i2, i3, fun _ => ?_, ?_⟩
      · cases j with
        | zero => show (128 : Int) ≤ ((u % 128 + 128 : Nat) : Int); omega
        | succ j => exact i1 j (by simpa using hj)
      · by_cases h1 : 1 < (encU (u / 128)).length
        · exact i4 h1
        · have h2 : u / 128 < 128 := by
            rcases Nat.lt_or_ge (u / 128) 128 with h | h
            · exact h
            · rw [encU_big h, List.length_cons] at h1
              have := encU_pos (u / 128 / 128)
              omega
          rw [encU_small h2]
          simp
          omega
      · rw [dval, i5]
        omega

theorem getD_append_left (a b : List Int) (j : Nat) (h : j < a.length) : (a ++ b).getD j 0 = a.getD j 0 := by
  simp [List.getD, List.getElem?_append_left h]

theorem readN_enc (n : Int) (h1 : -9223372036854775808 ≤ n) (h2 : n ≤ 9223372036854775807) (t : List Int) : readN (enc n ++ t) = ⟨0, n, (enc n).length⟩ := by
  have hlen := enc_len h1 h2
  have hu := unsN_lt h1 h2
  obtain ⟨s1, s2, s3, s4, s5⟩ := encU_shape (unsN n)
  have hp := encU_pos (unsN n)
  have hlen' : (encU (unsN n)).length ≤ 10 := hlen
  show readN (encU (unsN n) ++ t) = ⟨0, n, (encU (unsN n)).length⟩
  have hc : contN 10 (encU (unsN n) ++ t) = (encU (unsN n)).length - 1 := contN_eq _ _ _ (fun j hj => by rw [getD_append_left _ _ _ (by omega)]; exact s1 j (by omega)) (by simp only [List.length_append]; omega) (by omega)
    (.inr (.inr (by rw [getD_append_left _ _ _ (by omega)]; exact s2)))
  have h9 : (encU (unsN n)).length = 10 → (encU (unsN n)).getD 9 0 ≤ 1 := fun hl => by
    have hd := dval_snoc (encU (unsN n)) 9 (by omega)
    rw [List.take_of_length_le (by omega), s5] at hd
    have h3 : (encU (unsN n)).getD 9 0 < 128 := by rw [hl] at s2; exact s2
    have h4 : 0 ≤ (encU (unsN n)).getD 9 0 := by rw [hl] at s3; exact s3
    omega
  unfold readN
  rw [hc, if_neg (by simp only [List.length_append]; omega), if_neg, show (encU (unsN n)).length - 1 + 1 = (encU (unsN n)).length by omega]
  · rw [List.take_append_of_le_length (Nat.le_refl _), List.take_length, s5, sgn_uns]
  · rintro (h | ⟨h, h'⟩ | ⟨h, h'⟩)
    · omega
    · rw [getD_append_left _ _ _ (by omega)] at h'
      have := h9 (by omega)
      omega
    · rw [getD_append_left _ _ _ (by omega)] at h'
      have := s4 (by omega)
      omega

/-- One way alone: bytes that are read are those of what was read. -/
theorem encU_dval : ∀ (l : List Int), 0 < l.length → (∀ j, j + 1 < l.length → 128 ≤ l.getD j 0 ∧ l.getD j 0 ≤ 255) → l.getD (l.length - 1) 0 < 128 → 0 ≤ l.getD (l.length - 1) 0 → (1 < l.length → l.getD (l.length - 1) 0 ≠ 0) → encU (dval l) = l
  | [], h, _, _, _, _ => by simp at h
  | [x], _, _, h2, h3, _ => by
    have h2' : x < 128 := h2
    have h3' : 0 ≤ x := h3
    have : dval [x] = x.toNat := by simp [dval]; omega
    rw [this, encU_small (by omega)]
    congr 1; omega
  | x :: y :: r, _, h1, h2, h3, h4 => by
    have hx := h1 0 (by simp)
    have hx1 : 128 ≤ x := hx.1
    have hx2 : x ≤ 255 := hx.2
    have e : (x :: y :: r).getD ((x :: y :: r).length - 1) 0 = (y :: r).getD ((y :: r).length - 1) 0 := rfl
    have ih := encU_dval (y :: r) (by simp) (fun j hj => h1 (j + 1) (by simpa using hj)) (by rw [← e]; exact h2) (by rw [← e]; exact h3) (fun _ => by rw [← e]; exact h4 (by simp))
    have hd : 0 < dval (y :: r) := by
      rcases Nat.eq_zero_or_pos (dval (y :: r)) with h0 | h0
      · rw [h0, encU_small (by omega)] at ih
        have h5 := h4 (by simp)
        rw [e, ← ih] at h5
        exact absurd rfl h5
      · exact h0
    have hv : dval (x :: y :: r) = (x % 128).toNat + 128 * dval (y :: r) := rfl
    rw [hv, encU_big (by omega)]
    have e1 : ((x % 128).toNat + 128 * dval (y :: r)) / 128 = dval (y :: r) := by omega
    have e2 : ((x % 128).toNat + 128 * dval (y :: r)) % 128 + 128 = x.toNat := by omega
    rw [e1, e2, ih]
    congr 1; omega

theorem readN_ok {l : List Int} {v : Int} {k : Nat} (hu : U8 l) (h : readN l = ⟨0, v, k⟩) : enc v = l.take k ∧ 0 < k ∧ k ≤ l.length ∧ k ≤ 10 ∧ -9223372036854775808 ≤ v ∧ v ≤ 9223372036854775807 := by
  have hc := contN_le 10 l
  obtain ⟨s1, s2⟩ := contN_spec 10 l
  unfold readN at h
  by_cases c1 : contN 10 l < 10 ∧ l.length ≤ contN 10 l
  · rw [if_pos c1] at h; injection h with h; omega
  rw [if_neg c1] at h
  by_cases c2 : contN 10 l = 10 ∨ (contN 10 l = 9 ∧ 1 < l.getD 9 0) ∨ (0 < contN 10 l ∧ l.getD (contN 10 l) 0 = 0)
  · rw [if_pos c2] at h; injection h with h; omega
  rw [if_neg c2] at h
  injection h with _ h2 h3
  generalize hk : contN 10 l = c at *
  subst h3
  have hlt : c < l.length := by omega
  have hlen : (l.take (c + 1)).length = c + 1 := by simp; omega
  have hget : ∀ j, j < c + 1 → (l.take (c + 1)).getD j 0 = l.getD j 0 := fun j hj => by simp [List.getD, hj]
  have hlast := s2 (by omega) hlt
  have hE : encU (dval (l.take (c + 1))) = l.take (c + 1) := encU_dval _ (by omega) (fun j hj => by
      rw [hget j (by omega)]; exact ⟨s1 j (by omega), (hu.at_ j).2⟩) (by rw [hlen, hget _ (by omega)]; exact hlast) (by rw [hlen, hget _ (by omega)]; exact (hu.at_ _).1)
      (fun h1 => by rw [hlen, hget _ (by omega)]; intro h0; exact c2 (.inr (.inr ⟨by omega, h0⟩)))
  have hd : dval (l.take (c + 1)) < 18446744073709551616 := by
    by_cases h9 : c = 9
    · subst h9
      have := dval_snoc l 9 hlt
      have h8 := dval_lt (l.take 9)
      have h8' : (l.take 9).length = 9 := by simp; omega
      rw [h8'] at h8
      have hx : l.getD 9 0 ≤ 1 := by
        rcases Int.lt_or_le 1 (l.getD 9 0) with h1 | h1
        · exact absurd (.inr (.inl ⟨rfl, h1⟩)) c2
        · exact h1
      have hx0 := (hu.at_ 9).1
      omega
    · have h8 := dval_lt (l.take (c + 1))
      rw [hlen] at h8
      have : 128 ^ (c + 1) ≤ 128 ^ 9 := Nat.pow_le_pow_right (by decide) (by omega)
      omega
  refine ⟨?_, by omega, by omega, by omega, ?_⟩
  · rw [← h2]
    unfold enc
    rw [uns_sgn]
    exact hE
  · rw [← h2]
    unfold sgn
    split <;> omega

/-- As many numbers, one behind the other. -/
def readMany : Nat → List Int → Got (List Int)
  | 0, _ => ⟨0, [], 0⟩
  | n + 1, l =>
    if (readN l).f ≠ 0 then ⟨(readN l).f, [], 0⟩
    else if (readMany n (l.drop (readN l).k)).f ≠ 0 then ⟨(readMany n (l.drop (readN l).k)).f, [], 0⟩
    else ⟨0, (readN l).v :: (readMany n (l.drop (readN l).k)).v, (readN l).k + (readMany n (l.drop (readN l).k)).k⟩

/-- How many things. -/
def readC (l : List Int) : Got Nat :=
  if (readN l).f ≠ 0 then ⟨(readN l).f, 0, 0⟩
  else if (readN l).v < 0 then ⟨3, 0, 0⟩
  else if (l.length : Int) - (readN l).k < (readN l).v then ⟨4, 0, 0⟩
  else ⟨0, (readN l).v.toNat, (readN l).k⟩
def readL (l : List Int) : Got (List Int) :=
  if (readC l).f ≠ 0 then ⟨(readC l).f, [], 0⟩
  else if (readMany (readC l).v (l.drop (readC l).k)).f ≠ 0 then ⟨(readMany (readC l).v (l.drop (readC l).k)).f, [], 0⟩
  else ⟨0, (readMany (readC l).v (l.drop (readC l).k)).v, (readC l).k + (readMany (readC l).v (l.drop (readC l).k)).k⟩
def readT (l : List Int) : Got (List Int) :=
  if (readC l).f ≠ 0 then ⟨(readC l).f, [], 0⟩
  else ⟨0, (l.drop (readC l).k).take (readC l).v, (readC l).k + (readC l).v⟩
end Go.Proofs.Ythakidnbgmpcfaa
