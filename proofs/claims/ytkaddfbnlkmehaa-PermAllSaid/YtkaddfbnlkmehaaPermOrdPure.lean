/- How often a permutation takes: plain facts. -/
import Derived.Test.YtkaddfbnlkmehaaPermPure
namespace Go.Proofs.Ytkaddfbnlkmehaa

/-- p behind itself, k times more. -/
def pw (p : List Int) : Nat → List Int
  | 0 => p
  | k + 1 => mulL (pw p k) p
theorem pw_length (p : List Int) : ∀ k, (pw p k).length = p.length
  | 0 => rfl
  | k + 1 => by rw [pw, mulL_length, pw_length p k]
theorem Prm.pw {p : List Int} (h : Prm p) : ∀ k, Prm (pw p k)
  | 0 => h
  | k + 1 => (h.pw k).mul h (pw_length p k)
/-- Where i is led by k steps. -/
def itf (p : List Int) : Nat → Nat → Nat
  | 0, i => i
  | k + 1, i => (p.getD (itf p k i) 0).toNat
theorem itf_lt {p : List Int} (h : Prm p) {i : Nat} (hi : i < p.length) : ∀ k, itf p k i < p.length
  | 0 => hi
  | k + 1 => by
    have := h.at_ (itf_lt h hi k)
    rw [itf]; omega
theorem itf_inj {p : List Int} (h : Prm p) {i j : Nat} (hi : i < p.length) (hj : j < p.length) : ∀ k, itf p k i = itf p k j → i = j
  | 0, e => e
  | k + 1, e => by
    rw [itf, itf] at e
    have h1 := h.at_ (itf_lt h hi k)
    have h2 := h.at_ (itf_lt h hj k)
    exact itf_inj h hi hj k (nodup_getD_inj h.nd (itf_lt h hi k) (itf_lt h hj k) (by omega))
theorem itf_add (p : List Int) (b i : Nat) : ∀ a, itf p (a + b) i = itf p a (itf p b i)
  | 0 => by rw [Nat.zero_add]; rfl
  | a + 1 => by rw [show a + 1 + b = (a + b) + 1 by omega, itf, itf_add p b i a]; rfl
theorem itf_mul {p : List Int} {K i : Nat} (h : itf p K i = i) : ∀ m, itf p (m * K) i = i
  | 0 => by rw [Nat.zero_mul]; rfl
  | m + 1 => by rw [Nat.succ_mul, itf_add, h, itf_mul h m]
theorem pw_at {p : List Int} (h : Prm p) {i : Nat} (hi : i < p.length) : ∀ k, (pw p k).getD i 0 = (itf p (k + 1) i : Nat)
  | 0 => by
    have := h.at_ hi
    rw [pw, itf, itf]; omega
  | k + 1 => by
    have h1 := itf_lt h hi (k + 1)
    have := h.at_ h1
    have e : itf p (k + 1 + 1) i = (p.getD (itf p (k + 1) i) 0).toNat := rfl
    rw [pw, mulL_at (by rw [pw_length]; exact hi), pw_at h hi k, e, Int.toNat_natCast]
    omega
theorem itf_cyc {p : List Int} (h : Prm p) {i : Nat} (hi : i < p.length) : ∃ m, 1 ≤ m ∧ m ≤ p.length ∧ itf p m i = i := by
  refine Classical.byContradiction fun hno => ?_
  have hne : ∀ m, 1 ≤ m → m ≤ p.length → itf p m i ≠ i := fun m h1 h2 e => hno ⟨m, h1, h2, e⟩
  have hnd : ((List.range (p.length + 1)).map fun k => itf p k i).Nodup := by
    refine List.pairwise_map.2 (List.pairwise_iff_getElem.2 fun a b h1 h2 hab e => ?_)
    simp at h1 h2
    simp only [List.getElem_range] at e
    rw [show b = a + (b - a) by omega, itf_add] at e
    have := itf_inj h hi (itf_lt h hi _) a e
    exact hne (b - a) (by omega) (by omega) this.symm
  have := nd_len _ (List.range p.length) hnd (fun x hx => by
    obtain ⟨k, _, rfl⟩ := List.mem_map.1 hx
    exact List.mem_range.2 (itf_lt h hi k))
  simp only [List.length_map, List.length_range] at this
  omega
theorem itf_all {p : List Int} (h : Prm p) : ∀ t, t ≤ p.length → ∃ K, 1 ≤ K ∧ K ≤ 8 ^ t ∧ ∀ i, i < t → itf p K i = i
  | 0, _ => ⟨1, by omega, by decide, fun i hi => by omega⟩
  | t + 1, ht => by
    obtain ⟨K, h1, h2, h3⟩ := itf_all h t (by omega)
    obtain ⟨m, k1, k2, k3⟩ := itf_cyc h (i := t) (by omega)
    have hl := h.len
    refine ⟨m * K, Nat.mul_pos k1 h1, ?_, fun i hi => ?_⟩
    · rw [Nat.pow_succ, Nat.mul_comm]
      exact Nat.mul_le_mul h2 (by omega)
    · by_cases e : i = t
      · subst e
        rw [Nat.mul_comm]
        exact itf_mul k3 K
      · exact itf_mul (h3 i (by omega)) m
theorem least (P : Nat → Prop) : ∀ B, (∃ K, K ≤ B ∧ P K) → ∃ K, K ≤ B ∧ P K ∧ ∀ k, k < K → ¬ P k
  | 0, ⟨K, h1, h2⟩ => ⟨K, h1, h2, fun k hk => by omega⟩
  | B + 1, ⟨K, h1, h2⟩ => by
    by_cases h : ∃ K, K ≤ B ∧ P K
    · obtain ⟨K, k1, k2, k3⟩ := least P B h
      exact ⟨K, by omega, k2, k3⟩
    · exact ⟨K, h1, h2, fun k hk hp => h ⟨k, by omega, hp⟩⟩
/-- A permutation takes so often. -/
theorem takes {p : List Int} (h : Prm p) : ∃ K, K ≤ 16777216 ∧ pw p K = ups p.length ∧ ∀ k, k < K → pw p k ≠ ups p.length := by
  refine least _ _ ?_
  obtain ⟨K, h1, h2, h3⟩ := itf_all h p.length (Nat.le_refl _)
  have h4 : 8 ^ p.length ≤ 8 ^ 8 := Nat.pow_le_pow_right (by omega) h.len
  refine ⟨K - 1, by have : (8 : Nat) ^ 8 = 16777216 := rfl; omega, ?_⟩
  refine ext_getD (by rw [pw_length, ups_length]) fun i hi => ?_
  rw [pw_length] at hi
  rw [pw_at h hi, show K - 1 + 1 = K by omega, h3 i hi, ups_getD hi]
end Go.Proofs.Ytkaddfbnlkmehaa
