/- Sets of small numbers as words of 64 digits: the pure part. -/
import Derived.Test.YtcoocchfadbhdaaBytes
import Derived.Laws.BitsAllLaws
namespace Go.Proofs.Ytcoocchfadbhdaa
open Go.ChangeShapes Go.WideShapes Go.ChangeAt Go.RowKit

/-- The lowest m digits of word k of the set g. -/
def wd (g : Nat → Bool) (k : Nat) : Nat → Nat
  | 0 => 0
  | m + 1 => wd g k m + if g (64 * k + m) then 2 ^ m else 0
theorem wd_lt (g : Nat → Bool) (k m : Nat) : wd g k m < 2 ^ m := by
  induction m with
  | zero => simp [wd]
  | succ m ih => rw [wd, Nat.pow_succ]; split <;> omega
theorem wd_testBit (g : Nat → Bool) (k m j : Nat) : (wd g k m).testBit j = (decide (j < m) && g (64 * k + j)) := by
  induction m with
  | zero => simp [wd]
  | succ m ih =>
    rw [wd]
    have hlt := wd_lt g k m
    by_cases hg : g (64 * k + m) = true
    · rw [if_pos hg, Nat.add_comm]
      rcases Nat.lt_trichotomy j m with h | h | h
      · rw [Nat.testBit_two_pow_add_gt h, ih]; simp [h, Nat.lt_succ_of_lt h]
      · subst h
        rw [Nat.testBit_two_pow_add_eq, Nat.testBit_lt_two_pow hlt]
        simp [hg]
      · rw [Nat.testBit_lt_two_pow (Nat.lt_of_lt_of_le (show 2 ^ m + wd g k m < 2 ^ (m + 1) by rw [Nat.pow_succ]; omega) (Nat.pow_le_pow_right (by omega) h))]
        simp [show ¬ j < m + 1 by omega]
    · rw [if_neg hg, Nat.add_zero, ih]
      rcases Nat.lt_trichotomy j m with h | h | h
      · simp [h, Nat.lt_succ_of_lt h]
      · subst h; simp [hg]
      · simp [show ¬ j < m + 1 by omega, show ¬ j < m by omega]
/-- Word k of the set g. -/
def W (g : Nat → Bool) (k : Nat) : Int := (wd g k 64 : Int)
theorem W_fits (g : Nat → Bool) (k : Nat) : 0 ≤ W g k ∧ W g k < 18446744073709551616 := by
  have := wd_lt g k 64
  unfold W
  omega
theorem W_ext {X : Nat} {g : Nat → Bool} {k : Nat} (hX : X < 18446744073709551616) (h : ∀ j, j < 64 → X.testBit j = g (64 * k + j)) : (X : Int) = W g k := by
  unfold W
  congr 1
  apply Nat.eq_of_testBit_eq
  intro j
  rw [wd_testBit]
  by_cases hj : j < 64
  · simp [hj, h j hj]
  · rw [Nat.testBit_lt_two_pow (Nat.lt_of_lt_of_le hX (show 2 ^ 64 ≤ 2 ^ j from Nat.pow_le_pow_right (by omega) (by omega)))]
    simp [hj]
theorem W_congr {a b : Nat → Bool} {k : Nat} (h : ∀ j, j < 64 → a (64 * k + j) = b (64 * k + j)) : W a k = W b k := by
  have := wd_lt a k 64
  refine W_ext (X := wd a k 64) (by omega) (fun j hj => ?_)
  rw [wd_testBit]; simp [hj, h j hj]
theorem W_inj {a b : Nat → Bool} {k : Nat} (h : W a k = W b k) (j : Nat) (hj : j < 64) : a (64 * k + j) = b (64 * k + j) := by
  unfold W at h
  have h1 : wd a k 64 = wd b k 64 := Int.ofNat_inj.1 h
  have h2 := wd_testBit a k 64 j
  have h3 := wd_testBit b k 64 j
  rw [h1, h3] at h2
  simpa [hj] using h2.symm
theorem W_none {g : Nat → Bool} {k : Nat} (h : ∀ j, j < 64 → g (64 * k + j) = false) : W g k = 0 := by
  have := W_ext (X := 0) (g := g) (k := k) (by omega) (fun j hj => by simp [h j hj])
  exact this.symm

/-- A digit. -/
def pw (j : Nat) : Int := (2 : Int) ^ j
theorem pw_nat (j : Nat) : pw j = ((2 ^ j : Nat) : Int) := by simp [pw]
theorem pw_lt {j : Nat} (hj : j < 64) : 2 ^ j < 18446744073709551616 := by
  have : 2 ^ j ≤ 2 ^ 63 := Nat.pow_le_pow_right (by omega) (by omega)
  omega
theorem wdn_lt (g : Nat → Bool) (k : Nat) : wd g k 64 < 18446744073709551616 := by
  have := wd_lt g k 64
  omega
theorem W_and (a b : Nat → Bool) (k : Nat) : bits .and .u64 (W a k) (W b k) = W (fun i => a i && b i) k := by
  unfold W
  rw [u64_and_nat _ _ (wdn_lt a k) (wdn_lt b k)]
  exact W_ext (Nat.lt_of_le_of_lt Nat.and_le_left (wdn_lt a k)) (fun j hj => by rw [Nat.testBit_and, wd_testBit, wd_testBit]; simp [hj])
theorem W_or (a b : Nat → Bool) (k : Nat) : bits .or .u64 (W a k) (W b k) = W (fun i => a i || b i) k := by
  unfold W
  rw [u64_or_nat _ _ (wdn_lt a k) (wdn_lt b k)]
  exact W_ext (Nat.or_lt_two_pow (n := 64) (wd_lt a k 64) (wd_lt b k 64)) (fun j hj => by rw [Nat.testBit_or, wd_testBit, wd_testBit]; simp [hj])
theorem max_sub (b : Nat) : 18446744073709551615 - b = 2 ^ 64 - (b + 1) := by omega
theorem W_minus (a b : Nat → Bool) (k : Nat) : bits .andNot .u64 (W a k) (W b k) = W (fun i => a i && !b i) k := by
  unfold W
  rw [u64_andNot_nat _ _ (wdn_lt a k) (wdn_lt b k)]
  refine W_ext (Nat.lt_of_le_of_lt Nat.and_le_left (wdn_lt a k)) (fun j hj => ?_)
  rw [Nat.testBit_and, max_sub, Nat.testBit_two_pow_sub_succ (wd_lt b k 64), wd_testBit, wd_testBit]
  simp [hj]
theorem has_bit (g : Nat → Bool) (k j : Nat) (hj : j < 64) : (bits .and .u64 (W g k) (pw j) != 0) = g (64 * k + j) := by
  unfold W
  rw [pw_nat, u64_and_nat _ _ (wdn_lt g k) (pw_lt hj), nat_bit]
  have h := wd_testBit g k 64 j
  rw [Nat.testBit_eq_decide_div_mod_eq] at h
  have hp : 0 < 2 ^ j := Nat.two_pow_pos j
  by_cases h1 : wd g k 64 / 2 ^ j % 2 = 1
  · rw [h1]
    simp only [h1, hj, decide_true, Bool.true_and] at h
    rw [← h]
    simp
    exact Int.ne_of_gt (Int.pow_pos (by omega))
  · have h0 : wd g k 64 / 2 ^ j % 2 = 0 := by omega
    rw [h0]
    simp only [h0, hj, decide_true, Bool.true_and] at h
    rw [← h]
    simp
/-- The set with i, or without it. -/
def upd (g : Nat → Bool) (i : Nat) (b : Bool) : Nat → Bool := fun j => if j = i then b else g j
theorem put_bit (g : Nat → Bool) (k j : Nat) (hj : j < 64) : bits .or .u64 (W g k) (pw j) = W (upd g (64 * k + j) true) k := by
  conv => lhs; unfold W
  rw [pw_nat, u64_or_nat _ _ (wdn_lt g k) (pw_lt hj)]
  refine W_ext (Nat.or_lt_two_pow (n := 64) (wd_lt g k 64) (Nat.pow_lt_pow_right (by omega) hj)) (fun i hi => ?_)
  rw [Nat.testBit_or, wd_testBit, Nat.testBit_two_pow]
  unfold upd
  by_cases h : i = j
  · subst h; simp
  · rw [if_neg (by omega)]; simp [hi, show ¬ j = i by omega]
theorem drop_bit (g : Nat → Bool) (k j : Nat) (hj : j < 64) : bits .andNot .u64 (W g k) (pw j) = W (upd g (64 * k + j) false) k := by
  conv => lhs; unfold W
  rw [pw_nat, u64_andNot_nat _ _ (wdn_lt g k) (pw_lt hj)]
  refine W_ext (Nat.lt_of_le_of_lt Nat.and_le_left (wdn_lt g k)) (fun i hi => ?_)
  rw [Nat.testBit_and, max_sub, Nat.testBit_two_pow_sub_succ (Nat.pow_lt_pow_right (by omega) hj), wd_testBit, Nat.testBit_two_pow]
  unfold upd
  by_cases h : i = j
  · subst h; simp
  · rw [if_neg (by omega)]; simp [hi, show ¬ j = i by omega]
theorem upd_other {g : Nat → Bool} {i k : Nat} (b : Bool) (h : k ≠ i / 64) : W (upd g i b) k = W g k :=
  W_congr (fun j hj => by unfold upd; rw [if_neg (by omega)])

/-- How many digits are 1. -/
def pop (u : Nat) : Nat := if h : u = 0 then 0 else u % 2 + pop (u / 2)
termination_by u
decreasing_by omega
theorem pop_zero : pop 0 = 0 := by rw [pop]; simp
theorem pop_step (u : Nat) : pop u = u % 2 + pop (u / 2) := by
  rw [pop]
  split
  · next h => subst h; simp [pop_zero]
  · rfl
theorem and_mod2 (a b : Nat) : (a &&& b) % 2 = a % 2 * (b % 2) := by
  have h := Nat.and_mod_two_pow (a := a) (b := b) (n := 1)
  simp only [Nat.pow_one] at h
  rw [h]
  rcases Nat.mod_two_eq_zero_or_one a with ha | ha <;> rcases Nat.mod_two_eq_zero_or_one b with hb | hb <;> simp [ha, hb]
theorem pop_less (u : Nat) (hu : u ≠ 0) : pop u = pop (u &&& (u - 1)) + 1 := by
  induction u using Nat.strongRecOn with
  | _ u ih =>
    rw [pop_step u, pop_step (u &&& (u - 1)), and_mod2, Nat.and_div_two]
    rcases Nat.mod_two_eq_zero_or_one u with h | h
    · have e : (u - 1) / 2 = u / 2 - 1 := by omega
      rw [h, e, ih (u / 2) (by omega) (by omega)]
      omega
    · have e : (u - 1) / 2 = u / 2 := by omega
      have e2 : (u - 1) % 2 = 0 := by omega
      rw [h, e, e2, Nat.and_self]
      omega
theorem pop_top (m x : Nat) (hx : x < 2 ^ m) : pop (2 ^ m + x) = pop x + 1 := by
  induction m generalizing x with
  | zero =>
    obtain rfl : x = 0 := by simpa using hx
    rw [pop_step]; simp [pop_zero]
  | succ m ih =>
    rw [Nat.pow_succ] at hx ⊢
    rw [pop_step, pop_step x, show (2 ^ m * 2 + x) % 2 = x % 2 by omega, show (2 ^ m * 2 + x) / 2 = 2 ^ m + x / 2 by omega, ih (x / 2) (by omega)]
    omega
/-- How many numbers from a on, n in a row, are in the set. -/
def cnt (g : Nat → Bool) (a : Nat) : Nat → Nat
  | 0 => 0
  | n + 1 => cnt g a n + if g (a + n) then 1 else 0
theorem pop_wd (g : Nat → Bool) (k m : Nat) : pop (wd g k m) = cnt g (64 * k) m := by
  induction m with
  | zero => simp [wd, cnt, pop_zero]
  | succ m ih =>
    rw [wd, cnt]
    split
    · rw [Nat.add_comm, pop_top _ _ (wd_lt g k m), ih]
    · simp [ih]
theorem cnt_add (g : Nat → Bool) (a n m : Nat) : cnt g a (n + m) = cnt g a n + cnt g (a + n) m := by
  induction m with
  | zero => simp [cnt]
  | succ m ih => rw [← Nat.add_assoc, cnt, cnt, ih]; rw [Nat.add_assoc a n m]; omega
theorem cnt_le (g : Nat → Bool) (a n : Nat) : cnt g a n ≤ n := by
  induction n with
  | zero => simp [cnt]
  | succ n ih => rw [cnt]; split <;> omega
theorem cnt_none {g : Nat → Bool} {a n : Nat} (h : ∀ i, i < n → g (a + i) = false) : cnt g a n = 0 := by
  induction n with
  | zero => rfl
  | succ n ih => rw [cnt, ih (fun i hi => h i (by omega)), h n (by omega)]; simp
theorem cnt_congr {g f : Nat → Bool} {a n : Nat} (h : ∀ i, i < n → g (a + i) = f (a + i)) : cnt g a n = cnt f a n := by
  induction n with
  | zero => rfl
  | succ n ih => rw [cnt, cnt, ih (fun i hi => h i (by omega)), h n (by omega)]
theorem pop_le (m u : Nat) (h : u < 2 ^ m) : pop u ≤ m := by
  induction m generalizing u with
  | zero =>
    obtain rfl : u = 0 := by simpa using h
    rw [pop_zero]; omega
  | succ m ih =>
    rw [Nat.pow_succ] at h
    rw [pop_step]
    have := ih (u / 2) (by omega)
    omega
theorem pop_pos {u : Nat} (h : u ≠ 0) : 1 ≤ pop u := by rw [pop_less u h]; omega
theorem and_less {u : Nat} (h : u ≠ 0) : u &&& (u - 1) < u := Nat.lt_of_le_of_lt Nat.and_le_right (by omega)
end Go.Proofs.Ytcoocchfadbhdaa
