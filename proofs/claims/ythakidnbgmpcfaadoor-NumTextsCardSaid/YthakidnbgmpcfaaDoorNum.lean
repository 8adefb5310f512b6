/- Contracts of package num and of the document's answers for it. -/
import Derived.Test.YthakidnbgmpcfaaDoorBase
namespace Go.Proofs.YthakidnbgmpcfaaDoor
open Go.ChangeShapes Go.WideShapes Go.ChangeAt Go.RowKit

theorem fits_yes (n lo hi : Int) (w : World) (h1 : lo ≤ n) (h2 : n ≤ hi) :
    Calls Tryd.prog 18 #[.int .i64 n, .int .i64 lo, .int .i64 hi] w fun e w' => e = .returned (.bool true) ∧ w = w' := by
  go_enter Tryd.func18, Tryd.ntmps18
  go_wp2
  go_ret
  exact ⟨rfl, rfl⟩

theorem fits_no (n lo hi : Int) (w : World) (h : n < lo ∨ hi < n) :
    Calls Tryd.prog 18 #[.int .i64 n, .int .i64 lo, .int .i64 hi] w fun e w' => e = .returned (.bool false) ∧ w = w' := by
  by_cases h1 : n < lo
  · go_enter Tryd.func18, Tryd.ntmps18
    go_wp2
    go_ret
    exact ⟨rfl, rfl⟩
  · have h2 : ¬ n ≤ hi := by omega
    have h3 : lo ≤ n := by omega
    go_enter Tryd.func18, Tryd.ntmps18
    go_wp2
    go_ret
    exact ⟨rfl, rfl⟩

/-- The remainder that the document asks. -/
def modF (n b : Int) : Int := if b = 0 then 0 else n % b

theorem tmod_neg (n b : Int) (hn : n < 0) (hb : b ≠ 0) :
    (n.tmod b = 0 ∧ n % b = 0) ∨ (n.tmod b < 0 ∧ -(b.natAbs : Int) < n.tmod b ∧ n % b = n.tmod b + b.natAbs) := by
  have h0 := Int.emod_nonneg n hb
  have h1 := Int.emod_lt n hb
  have h2 := Int.tmod_eq_emod (a := n) (b := b)
  by_cases hd : b ∣ n
  · left
    have h3 := Int.emod_eq_zero_of_dvd hd
    rw [if_pos (.inr hd)] at h2
    omega
  · right
    rw [if_neg (by rintro (h | h); omega; exact hd h)] at h2
    have h3 : n % b ≠ 0 := fun h => hd (Int.dvd_of_emod_eq_zero h)
    omega

theorem mod_any (n b : Int) (w : World) (hn1 : -9223372036854775808 ≤ n) (hn2 : n ≤ 9223372036854775807) (hb1 : -9223372036854775808 ≤ b) (hb2 : b ≤ 9223372036854775807) :
    Calls Tryd.prog 12 #[.int .i64 n, .int .i64 b] w fun e w' => e = .returned (.int .i64 (modF n b)) ∧ w = w' := by
  unfold modF
  by_cases c0 : b = 0
  · rw [if_pos c0]
    subst c0
    go_enter Tryd.func12, Tryd.ntmps12
    go_wp2
    go_ret
    exact ⟨rfl, rfl⟩
  rw [if_neg c0]
  by_cases c1 : 0 ≤ n
  · have c2 := Int.emod_nonneg n c0
    have c3 := Int.emod_lt n c0
    have c4 : n % b ≤ 9223372036854775807 := by omega
    have c5 : n.tmod b = n % b := Int.tmod_eq_emod_of_nonneg c1
    clear c3
    go_enter Tryd.func12, Tryd.ntmps12
    go_wp2
    go_ret
    exact ⟨rfl, rfl⟩
  · rcases tmod_neg n b (by omega) c0 with ⟨h1, h2⟩ | ⟨h1, h2, h3⟩
    · rw [h2]
      go_enter Tryd.func12, Tryd.ntmps12
      go_wp2
      go_ret
      exact ⟨rfl, rfl⟩
    · rw [h3]
      clear h3
      by_cases c2 : b < 0
      · have h4 : b < n.tmod b := by omega
        have h5 : n.tmod b + (b.natAbs : Int) = n.tmod b - b := by omega
        rw [h5]
        clear h5 h2
        go_enter Tryd.func12, Tryd.ntmps12
        go_wp2
        go_ret
        exact ⟨rfl, rfl⟩
      · have h4 : -b < n.tmod b := by omega
        have h5 : n.tmod b + (b.natAbs : Int) = n.tmod b + b := by omega
        rw [h5]
        clear h5 h2
        go_enter Tryd.func12, Tryd.ntmps12
        go_wp2
        go_ret
        exact ⟨rfl, rfl⟩

/-- One digit more. -/
def further (n d b : Int) : Option Int :=
  if b < 1 ∨ d < 0 ∨ b ≤ d then none
  else if 0 < n ∧ 1048576 / n < b then none
  else if 1048576 - n * b < d then none
  else some (n * b + d)

theorem further_none (n d b : Int) (w : World) (hn1 : 0 ≤ n) (hn2 : n ≤ 1048576) (hd1 : -9223372036854775808 ≤ d) (hd2 : d ≤ 9223372036854775807) (hb1 : -9223372036854775808 ≤ b) (hb2 : b ≤ 9223372036854775807)
    (h : further n d b = none) :
    Calls Tryd.prog 17 #[.int .i64 n, .int .i64 d, .int .i64 b] w fun e w' => e = .returned (.tuple #[.int .i64 0, .bool false]) ∧ w = w' := by
  unfold further at h
  by_cases c1 : b < 1
  · clear h
    go_enter Tryd.func17, Tryd.ntmps17
    go_wp2
    go_ret2
    exact ⟨rfl, rfl⟩
  by_cases c2 : d < 0 ∨ b ≤ d
  · clear h
    go_enter Tryd.func17, Tryd.ntmps17
    go_wp2_with (go_at_call 18; refine (fits_no _ _ _ _ (by omega)).mono ?_; rintro e w' ⟨rfl, rfl⟩)
    go_ret2
    exact ⟨rfl, rfl⟩
  rw [if_neg (by omega)] at h
  by_cases c3 : 0 < n
  · by_cases c4 : 1048576 / n < b
    · clear h
      go_enter Tryd.func17, Tryd.ntmps17
      go_wp2_with (go_at_call 18; refine (fits_yes _ _ _ _ (by omega) (by omega)).mono ?_; rintro e w' ⟨rfl, rfl⟩)
      go_ret2
      exact ⟨rfl, rfl⟩
    · have c5 : n * b ≤ 1048576 := by
        have h1 : b ≤ 1048576 / n := by omega
        have h2 := Int.mul_le_mul_of_nonneg_left h1 hn1
        have h3 := Int.mul_ediv_self_le (x := 1048576) (k := n) (by omega)
        omega
      have c6 : 0 ≤ n * b := Int.mul_nonneg hn1 (by omega)
      have c7 : 1048576 - n * b < d := by
        rw [if_neg (by omega)] at h
        by_cases hh : 1048576 - n * b < d
        · exact hh
        · rw [if_neg hh] at h; cases h
      clear h
      go_enter Tryd.func17, Tryd.ntmps17
      go_wp2_with (go_at_call 18; refine (fits_yes _ _ _ _ (by omega) (by omega)).mono ?_; rintro e w' ⟨rfl, rfl⟩)
      go_ret2
      exact ⟨rfl, rfl⟩
  · have c5 : n = 0 := by omega
    subst c5
    have c7 : 1048576 < d := by
      rw [if_neg (by omega)] at h
      by_cases hh : 1048576 < d
      · exact hh
      · rw [if_neg (by omega)] at h; cases h
    clear h
    go_enter Tryd.func17, Tryd.ntmps17
    go_wp2_with (go_at_call 18; refine (fits_yes _ _ _ _ (by omega) (by omega)).mono ?_; rintro e w' ⟨rfl, rfl⟩)
    go_ret2
    exact ⟨rfl, rfl⟩

theorem further_some_spec {n d b m : Int} (hn1 : 0 ≤ n) (h : further n d b = some m) : 1 ≤ b ∧ 0 ≤ d ∧ d < b ∧ (0 < n → b ≤ 1048576 / n) ∧ 0 ≤ n * b ∧ n * b ≤ 1048576 ∧ d ≤ 1048576 - n * b ∧ m = n * b + d := by
  unfold further at h
  by_cases c1 : b < 1 ∨ d < 0 ∨ b ≤ d
  · rw [if_pos c1] at h; cases h
  rw [if_neg c1] at h
  by_cases c2 : 0 < n ∧ 1048576 / n < b
  · rw [if_pos c2] at h; cases h
  rw [if_neg c2] at h
  by_cases c3 : 1048576 - n * b < d
  · rw [if_pos c3] at h; cases h
  rw [if_neg c3] at h
  injection h with h
  exact ⟨by omega, by omega, by omega, by omega, Int.mul_nonneg hn1 (by omega), by omega, by omega, h.symm⟩

theorem further_some (n d b m : Int) (w : World) (hn1 : 0 ≤ n) (hn2 : n ≤ 1048576) (hb2 : b ≤ 9223372036854775807) (h : further n d b = some m) :
    Calls Tryd.prog 17 #[.int .i64 n, .int .i64 d, .int .i64 b] w fun e w' => e = .returned (.tuple #[.int .i64 m, .bool true]) ∧ w = w' := by
  obtain ⟨c1, c2, c3, c4, c5, c6, c7, rfl⟩ := further_some_spec hn1 h
  clear h
  have c8 : n * b + d ≤ 1048576 := by omega
  by_cases c9 : 0 < n
  · have c10 := c4 c9
    clear c4
    go_enter Tryd.func17, Tryd.ntmps17
    go_wp2_with (go_at_call 18; refine (fits_yes _ _ _ _ (by omega) (by omega)).mono ?_; rintro e w' ⟨rfl, rfl⟩)
    go_ret2
    exact ⟨rfl, rfl⟩
  · clear c4
    go_enter Tryd.func17, Tryd.ntmps17
    go_wp2_with (go_at_call 18; refine (fits_yes _ _ _ _ (by omega) (by omega)).mono ?_; rintro e w' ⟨rfl, rfl⟩)
    go_ret2
    exact ⟨rfl, rfl⟩

/-- The number of the digits ds to the bases bs behind the number n. -/
def rankGo : Int → List Int → List Int → Option Int
  | n, d :: ds, b :: bs => (further n d b).bind fun m => rankGo m ds bs
  | n, _, _ => some n
def rankF (ds bs : List Int) : Option Int := if ds.length = bs.length then rankGo 0 ds bs else none

def pairOf : Option Int → Value
  | some n => .tuple #[.int .i64 n, .bool true]
  | none => .tuple #[.int .i64 0, .bool false]

end Go.Proofs.YthakidnbgmpcfaaDoor
