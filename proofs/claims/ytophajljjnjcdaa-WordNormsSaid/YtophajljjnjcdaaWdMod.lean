/- The contract of num.Mod. -/
import Derived.Test.YtophajljjnjcdaaBase
namespace Go.Proofs.Ytophajljjnjcdaa.wd
open Go.ChangeShapes Go.WideShapes Go.ChangeAt Go.RowKit

/-- The remainder that the document asks. -/
def modF (n b : Int) : Int := if b = 0 then 0 else n % b

theorem tmod_neg (n b : Int) (hn : n < 0) (hb : b ≠ 0) :
    (n.tmod b = 0 ∧ n % b = 0) ∨ (n.tmod b < 0 ∧ -(b.natAbs : Int) < n.tmod b ∧ n % b = n.tmod b + b.natAbs) := by
  have h0 := Int.emod_nonneg n hb
  have h1 := Int.emod_lt n hb
  have h2 := Int.tmod_eq_emod (a := n) (b := b)
  by_cases hd : b ∣ n
  · left
    have h3 := Int.emod_eq_zero_of_dvd hd
    rw [if_pos (.inr hd)] at h2
    omega
  · right
    rw [if_neg (by rintro (h | h); omega; exact hd h)] at h2
    have h3 : n % b ≠ 0 := fun h => hd (Int.dvd_of_emod_eq_zero h)
    omega

theorem mod_any (n b : Int) (w : World) (hn1 : -9223372036854775808 ≤ n) (hn2 : n ≤ 9223372036854775807) (hb1 : -9223372036854775808 ≤ b) (hb2 : b ≤ 9223372036854775807) :
    Calls Try.prog 29 #[.int .i64 n, .int .i64 b] w fun e w' => e = .returned (.int .i64 (modF n b)) ∧ w = w' := by
  unfold modF
  by_cases c0 : b = 0
  · rw [if_pos c0]
    subst c0
    go_enter Try.func29, Try.ntmps29
    go_wp2
    go_ret
    exact ⟨rfl, rfl⟩
  rw [if_neg c0]
  by_cases c1 : 0 ≤ n
  · have c2 := Int.emod_nonneg n c0
    have c3 := Int.emod_lt n c0
    have c4 : n % b ≤ 9223372036854775807 := by omega
    have c5 : n.tmod b = n % b := Int.tmod_eq_emod_of_nonneg c1
    clear c3
    go_enter Try.func29, Try.ntmps29
    go_wp2
    go_ret
    exact ⟨rfl, rfl⟩
  · rcases tmod_neg n b (by omega) c0 with ⟨h1, h2⟩ | ⟨h1, h2, h3⟩
    · rw [h2]
      go_enter Try.func29, Try.ntmps29
      go_wp2
      go_ret
      exact ⟨rfl, rfl⟩
    · rw [h3]
      clear h3
      by_cases c2 : b < 0
      · have h4 : b < n.tmod b := by omega
        have h5 : n.tmod b + (b.natAbs : Int) = n.tmod b - b := by omega
        rw [h5]
        clear h5 h2
        go_enter Try.func29, Try.ntmps29
        go_wp2
        go_ret
        exact ⟨rfl, rfl⟩
      · have h4 : -b < n.tmod b := by omega
        have h5 : n.tmod b + (b.natAbs : Int) = n.tmod b + b := by omega
        rw [h5]
        clear h5 h2
        go_enter Try.func29, Try.ntmps29
        go_wp2
        go_ret
        exact ⟨rfl, rfl⟩

end Go.Proofs.Ytophajljjnjcdaa.wd
