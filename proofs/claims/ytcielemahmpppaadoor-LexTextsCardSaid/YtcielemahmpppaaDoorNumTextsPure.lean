/- Decimals and their numbers: plain facts. Nothing here speaks of the program. -/
import Derived.Lib.AtoiAllCases
import Derived.Lib.ItoaNum
import Derived.Lib.ItoaLen
namespace Go.Proofs.YtcielemahmpppaaDoor
open Go.Lib

/-- What digits make, behind a number. -/
def dv (a : Nat) (l : List UInt8) : Nat := l.foldl (fun a c => a * 10 + (c.toNat - 48)) a
def DG (l : List UInt8) : Prop := ∀ c ∈ l, 48 ≤ c.toNat ∧ c.toNat ≤ 57
theorem dv_snoc (a : Nat) (l : List UInt8) (c : UInt8) : dv a (l ++ [c]) = dv a l * 10 + (c.toNat - 48) := by simp [dv]
theorem dig_nat {d : Nat} (h : d < 10) : (UInt8.ofNat (48 + d)).toNat = 48 + d := by
  rw [UInt8.toNat_ofNat']; omega
theorem decDigits_big {u : Nat} (h : ¬ u < 10) : decDigits u = decDigits (u / 10) ++ [UInt8.ofNat (48 + u % 10)] := by rw [decDigits, dif_neg h]
theorem decDigits_dg (u : Nat) : DG (decDigits u) := by
  induction u using Nat.strongRecOn with
  | ind u ih =>
    by_cases h : u < 10
    · rw [decDigits_one h]
      intro c hc
      simp only [List.mem_cons, List.not_mem_nil, or_false] at hc
      subst hc
      rw [dig_nat h]; omega
    · rw [decDigits_big h]
      intro c hc
      rcases List.mem_append.1 hc with hc | hc
      · exact ih (u / 10) (by omega) c hc
      · simp only [List.mem_cons, List.not_mem_nil, or_false] at hc
        subst hc
        rw [dig_nat (by omega)]; omega
theorem dv_dec (u : Nat) : dv 0 (decDigits u) = u := by
  induction u using Nat.strongRecOn with
  | ind u ih =>
    by_cases h : u < 10
    · rw [decDigits_one h]
      show 0 * 10 + ((UInt8.ofNat (48 + u)).toNat - 48) = u
      rw [dig_nat h]; omega
    · rw [decDigits_big h, dv_snoc, ih (u / 10) (by omega), dig_nat (by omega)]
      omega
theorem decDigits_ne (u : Nat) : decDigits u ≠ [] := by
  rw [decDigits]
  split <;> simp
theorem dv_mono (l : List UInt8) : ∀ a, a ≤ dv a l := by
  induction l with
  | nil => intro a; exact Nat.le_refl _
  | cons c r ih => intro a; exact Nat.le_trans (by omega) (ih (a * 10 + (c.toNat - 48)))
theorem parse_dv : ∀ (l : List UInt8) (a : Nat), DG l → dv a l < 18446744073709551616 → parseUint10 a l = .ok (dv a l)
  | [], _, _, _ => rfl
  | c :: r, a, hd, hlt => by
    have hc := hd c (by simp)
    have hlt2 : dv (a * 10 + (c.toNat - 48)) r < 18446744073709551616 := hlt
    have hm := dv_mono r (a * 10 + (c.toNat - 48))
    rw [parseUint10, if_pos hc, if_neg (by omega), if_neg (by omega)]
    exact parse_dv r _ (fun x hx => hd x (by simp [hx])) hlt2
theorem parseMag_dec {u : Nat} (h : u < 18446744073709551616) : parseMag (decDigits u) = .ok u := by
  unfold parseMag
  rw [if_neg (decDigits_ne u), parse_dv _ _ (decDigits_dg u) (by rw [dv_dec]; exact h), dv_dec]
theorem atoi_itoa {n : Int} (h0 : -9223372036854775808 ≤ n) (h1 : n ≤ 9223372036854775807) : atoiAll (itoa n) = .ok n := by
  by_cases hn : n < 0
  · unfold itoa
    rw [if_pos hn, atoiAll_minus, parseMag_dec (by omega)]
    show (if 9223372036854775808 < n.natAbs then _ else _) = _
    rw [if_neg (by omega)]
    congr 1; omega
  · unfold itoa
    rw [if_neg hn]
    have hp := parseMag_dec (u := n.toNat) (by omega)
    have hd := decDigits_dg n.toNat
    cases hc : decDigits n.toNat with
    | nil => exact absurd hc (decDigits_ne _)
    | cons c r =>
      rw [hc] at hp hd
      have := hd c (by simp)
      rw [atoiAll_plain c r (by omega) (by omega), hp]
      show (if 9223372036854775808 ≤ n.toNat then _ else _) = _
      rw [if_neg (by omega)]
      congr 1; omega
theorem itoa_inj {m n : Int} (hm0 : -9223372036854775808 ≤ m) (hm1 : m ≤ 9223372036854775807) (hn0 : -9223372036854775808 ≤ n) (hn1 : n ≤ 9223372036854775807) (h : itoa m = itoa n) : m = n := by
  have h1 := atoi_itoa hm0 hm1
  rw [h, atoi_itoa hn0 hn1] at h1
  injection h1 with h1
  exact h1.symm
/-- The document's count of digits, and the number of the first eight of them. -/
def docStep (p : Nat × Nat) (c : UInt8) : Nat × Nat := if 48 ≤ c.toNat ∧ c.toNat ≤ 57 ∧ p.2 < 8 then (p.1 * 10 + (c.toNat - 48), p.2 + 1) else p
def docFold (l : List UInt8) : Nat × Nat := l.foldl docStep (0, 0)
theorem docFold_snoc (l : List UInt8) (c : UInt8) : docFold (l ++ [c]) = docStep (docFold l) c := by simp [docFold]
theorem docFold_dv (l : List UInt8) : ∀ a d, DG l → d + l.length ≤ 8 → l.foldl docStep (a, d) = (dv a l, d + l.length) := by
  induction l with
  | nil => intro a d _ _; rfl
  | cons c r ih =>
    intro a d hd hl
    have hc := hd c (by simp)
    have e : docStep (a, d) c = (a * 10 + (c.toNat - 48), d + 1) := if_pos ⟨hc.1, hc.2, by simp at hl; show d < 8; omega⟩
    rw [List.foldl_cons, e, ih _ _ (fun x hx => hd x (by simp [hx])) (by simp at hl; omega)]
    simp [dv]; omega
def minusB (l : List UInt8) : Bool := l.head?.map (·.toNat) == some 45
/-- The number that the document reads. -/
def docNum (l : List UInt8) : Int := if minusB l = true then -((docFold l).1 : Int) else (docFold l).1
theorem docStep_le {p : Nat × Nat} (h : p.1 < 10 ^ p.2 ∧ p.2 ≤ 8) (c : UInt8) : (docStep p c).1 < 10 ^ (docStep p c).2 ∧ (docStep p c).2 ≤ 8 := by
  unfold docStep
  split
  · rename_i h2
    refine ⟨?_, by show _ + 1 ≤ 8; omega⟩
    show p.1 * 10 + (c.toNat - 48) < 10 ^ (p.2 + 1)
    rw [Nat.pow_succ]; omega
  · exact h
theorem foldl_le : ∀ (l : List UInt8) (p : Nat × Nat), p.1 < 10 ^ p.2 ∧ p.2 ≤ 8 → (l.foldl docStep p).1 < 10 ^ (l.foldl docStep p).2 ∧ (l.foldl docStep p).2 ≤ 8
  | [], _, h => h
  | c :: r, p, h => foldl_le r _ (docStep_le h c)
theorem docFold_le (l : List UInt8) : (docFold l).1 < 10 ^ (docFold l).2 ∧ (docFold l).2 ≤ 8 := foldl_le l (0, 0) ⟨by decide, by decide⟩
theorem nDigits_le {u k : Nat} (h : u < 10 ^ (k + 1)) : nDigits u ≤ k + 1 := by
  induction k generalizing u with
  | zero => rw [nDigits_small (by simpa using h)]; exact Nat.le_refl _
  | succ k ih =>
    by_cases h2 : u < 10
    · rw [nDigits_small h2]; omega
    · rw [nDigits_big h2]
      have : u / 10 < 10 ^ (k + 1) := by rw [Nat.pow_succ] at h; omega
      have := ih this
      omega
theorem doc_itoa {n : Int} (h0 : -1048576 ≤ n) (h1 : n ≤ 1048576) : docNum (itoa n) = n ∧ (docFold (itoa n)).2 ≤ 7 := by
  by_cases hn : n < 0
  · have hl : (decDigits n.natAbs).length ≤ 7 := by rw [decDigits_length]; exact nDigits_le (k := 6) (by omega)
    have hf : docFold (itoa n) = (n.natAbs, (decDigits n.natAbs).length) := by
      unfold itoa docFold
      rw [if_pos hn, List.foldl_cons, show docStep (0, 0) 45 = (0, 0) from rfl, docFold_dv _ _ _ (decDigits_dg _) (by omega), dv_dec]
      simp
    refine ⟨?_, by rw [hf]; exact hl⟩
    unfold docNum
    rw [hf, if_pos (by unfold minusB itoa; rw [if_pos hn]; rfl)]
    show -((n.natAbs : Nat) : Int) = n
    omega
  · have hl : (decDigits n.toNat).length ≤ 7 := by rw [decDigits_length]; exact nDigits_le (k := 6) (by omega)
    have hf : docFold (itoa n) = (n.toNat, (decDigits n.toNat).length) := by
      unfold itoa docFold
      rw [if_neg hn, docFold_dv _ _ _ (decDigits_dg _) (by omega), dv_dec]
      simp
    refine ⟨?_, by rw [hf]; exact hl⟩
    have hmf : minusB (itoa n) = false := by
      unfold minusB itoa
      rw [if_neg hn]
      cases hc : decDigits n.toNat with
      | nil => rfl
      | cons c r =>
        have := decDigits_dg n.toNat c (by rw [hc]; simp)
        simp; omega
    unfold docNum
    rw [hf, hmf, if_neg (by decide)]
    show ((n.toNat : Nat) : Int) = n
    omega
end Go.Proofs.YtcielemahmpppaaDoor
