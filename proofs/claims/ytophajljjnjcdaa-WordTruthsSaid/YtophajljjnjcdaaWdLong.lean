/- The document's Long. -/
import Derived.Test.YtophajljjnjcdaaLtlWrong
namespace Go.Proofs.Ytophajljjnjcdaa.wd
open Go.ChangeShapes Go.WideShapes Go.ChangeAt Go.RowKit lt

set_option maxRecDepth 20000 in
set_option maxHeartbeats 4000000 in
theorem refLong_any (e : List (Int × Int)) (A : Option Addr) (c m : Nat) (w : World) (hm : m = e.length) (hlm : m ≤ 1000) (hA : PA w A e) :
    Calls Try.prog 31 #[.slice A m c] w fun x w' => x = .returned (.bool (isF e)) ∧ w = w' := by
  have HM := Lib.hid hm
  obtain ⟨z, HZ⟩ : ∃ z, Hid (isF e = z) := ⟨_, Lib.hid rfl⟩
  rw [HZ.out]
  have HA := Lib.hid hA
  clear hm hA
  go_enter Try.func31, Try.ntmps31
  go_wp2
  go_loop [3, 4] (fun nv iv => ∃ (k n : Nat), k ≤ m ∧ n ≤ k ∧ iv = .int .i64 k ∧ nv = .int .i64 n ∧ Hid (z = decide (wrF n (e.drop k) = 0))) (fun _ iv => m - (intOf iv).toNat)
  case atStart => exact ⟨0, 0, Nat.zero_le _, Nat.le_refl _, rfl, rfl, Lib.hid HZ.out.symm⟩
  case round =>
    obtain ⟨k, n, hk, hn, rfl, rfl, HR⟩ := hrel
    by_cases hlt : k < m
    · have hki : (k : Int) < m := by omega
      obtain ⟨b, o, rfl, hb, hc⟩ := HA.out (by rw [← HM.out]; omega)
      obtain ⟨c1, c2⟩ := hc k (by rw [← HM.out]; exact hlt)
      have HK : Hid (k < e.length) := Lib.hid (by rw [← HM.out]; exact hlt)
      obtain ⟨op, q, HND⟩ : ∃ op q, Hid (e.getD k (0, 0) = (op, q)) := ⟨_, _, Lib.hid rfl⟩
      rw [HND.out] at c1 c2
      dsimp only at c1 c2
      have HS : Hid (ndW n (op, q) ≠ 0 → z = false) := Lib.hid (fun h => by
        rw [HR.out, wr_stop HK.out (by rw [HND.out]; exact h), HND.out]
        exact decide_eq_false h)
      have HX : Hid (ndW n (op, q) = 0 → z = decide (wrF (n - (kT op).toNat + 1) (e.drop (k + 1)) = 0)) := Lib.hid (fun h => by
        rw [HR.out, wr_next HK.out (by rw [HND.out]; exact h), HND.out])
      clear hc HA HND HK
      rcases kT_cases op with ⟨hk0, ho⟩ | ⟨hk1, ho⟩ | ⟨hk2, ho⟩ | ⟨hkn, ho⟩
      · by_cases hq : op = 3 ∧ (q < 0 ∨ 8 ≤ q)
        · have HE : Hid (z = false) := Lib.hid (HS.out (by unfold ndW; rw [if_neg (by dsimp only; omega), if_neg (by dsimp only; omega), if_pos hq]; decide))
          obtain ⟨rfl, hq⟩ := hq
          clear HS HX ho hk0
          by_cases hq0 : q < 0
          · clear hq
            go_wp2
            go_ret
            exact ⟨by rw [HE.out]; rfl, rfl⟩
          · have hq8 : 8 ≤ q := by omega
            clear hq
            go_wp2
            go_ret
            exact ⟨by rw [HE.out]; rfl, rfl⟩
        · have HE : Hid (z = decide (wrF (n + 1) (e.drop (k + 1)) = 0)) := Lib.hid (by
            have h5 := HX.out (by unfold ndW; rw [if_neg (by dsimp only; omega), if_neg (by dsimp only; omega), if_neg hq])
            rw [hk0] at h5
            exact h5)
          clear HS HX hk0 HR
          have hn0 : ¬ (n : Int) < 0 := by omega
          rcases ho with rfl | rfl | rfl
          · clear hq
            go_wp2
            go_round
            case rel => exact ⟨k + 1, n + 1, by omega, by omega, by go_num, by go_num, HE⟩
            case measure => simp [intOf]; omega
          · clear hq
            go_wp2
            go_round
            case rel => exact ⟨k + 1, n + 1, by omega, by omega, by go_num, by go_num, HE⟩
            case measure => simp [intOf]; omega
          · have hq0 : ¬ q < 0 := fun h => hq ⟨rfl, .inl h⟩
            have hq8 : ¬ 8 ≤ q := fun h => hq ⟨rfl, .inr h⟩
            clear hq
            go_wp2
            go_round
            case rel => exact ⟨k + 1, n + 1, by omega, by omega, by go_num, by go_num, HE⟩
            case measure => simp [intOf]; omega
      · by_cases hs : n < 1
        · have HE : Hid (z = false) := Lib.hid (HS.out (by unfold ndW; rw [if_neg (by dsimp only; omega), if_pos (by dsimp only; omega)]; decide))
          obtain rfl : n = 0 := by omega
          clear HS HX hk1 HR hs
          rcases ho with rfl | rfl | rfl | rfl
          all_goals
            go_wp2
            go_ret
            exact ⟨by rw [HE.out]; rfl, rfl⟩
        · obtain ⟨p, rfl⟩ : ∃ p, n = p + 1 := ⟨n - 1, by omega⟩
          have HE : Hid (z = decide (wrF (p + 1) (e.drop (k + 1)) = 0)) := Lib.hid (by
            have h5 := HX.out (by unfold ndW; rw [if_neg (by dsimp only; omega), if_neg (by dsimp only; omega), if_neg (by dsimp only; omega)])
            rw [hk1] at h5
            exact h5)
          clear HS HX hk1 HR hs
          have hr : ((p + 1 : Nat) : Int) - 1 + 1 = ((p + 1 : Nat) : Int) := by omega
          have hsi : ¬ ((p + 1 : Nat) : Int) < 1 := by omega
          rcases ho with rfl | rfl | rfl | rfl
          all_goals
            go_wp2
            go_round
            case rel => exact ⟨k + 1, p + 1, by omega, by omega, by go_num, by go_num, HE⟩
            case measure => simp [intOf]; omega
      · by_cases hs : n < 2
        · have HE : Hid (z = false) := Lib.hid (HS.out (by unfold ndW; rw [if_neg (by dsimp only; omega), if_pos (by dsimp only; omega)]; decide))
          have hsi : (n : Int) < 2 := by omega
          clear HS HX hk2 HR
          rcases ho with rfl | rfl | rfl | rfl | rfl
          all_goals
            go_wp2
            go_ret
            exact ⟨by rw [HE.out]; rfl, rfl⟩
        · obtain ⟨p, rfl⟩ : ∃ p, n = p + 2 := ⟨n - 2, by omega⟩
          have HE : Hid (z = decide (wrF (p + 1) (e.drop (k + 1)) = 0)) := Lib.hid (by
            have h5 := HX.out (by unfold ndW; rw [if_neg (by dsimp only; omega), if_neg (by dsimp only; omega), if_neg (by dsimp only; omega)])
            rw [hk2] at h5
            exact h5)
          clear HS HX hk2 HR hs
          have hr : ((p + 2 : Nat) : Int) - 2 + 1 = ((p + 1 : Nat) : Int) := by omega
          have hsi : ¬ ((p + 2 : Nat) : Int) < 2 := by omega
          rcases ho with rfl | rfl | rfl | rfl | rfl
          all_goals
            go_wp2
            go_round
            case rel => exact ⟨k + 1, p + 1, by omega, by omega, by go_num, by go_num, HE⟩
            case measure => simp [intOf]; omega
      · have HE : Hid (z = false) := Lib.hid (HS.out (by unfold ndW; rw [if_pos (by dsimp only; omega)]; decide))
        clear HS HX hkn HR
        by_cases h1 : op < 1
        · clear ho
          go_wp2
          go_ret
          exact ⟨by rw [HE.out]; rfl, rfl⟩
        · have h2 : op > 12 := by omega
          clear ho
          go_wp2
          go_ret
          exact ⟨by rw [HE.out]; rfl, rfl⟩
    · obtain rfl : k = m := by omega
      have HE : Hid (z = decide (n = 1)) := Lib.hid (by
        rw [HR.out, wr_end (by rw [HM.out]; exact Nat.le_refl _)]
        by_cases h1 : n = 1
        · subst h1; rfl
        · rw [decide_eq_false h1]
          apply decide_eq_false
          split
          · decide
          · rw [if_pos (by omega)]; decide)
      clear HR
      by_cases h1 : n = 1
      · subst h1
        go_wp2
        go_ret
        exact ⟨by rw [HE.out]; rfl, rfl⟩
      · have h1i : ¬ (n : Int) = 1 := by omega
        have HE2 : Hid (z = false) := Lib.hid (by rw [HE.out]; exact decide_eq_false h1)
        go_wp2
        go_ret
        exact ⟨by rw [HE2.out]; show Ending.returned (Value.bool ((n : Int) == 1)) = _; rw [show ((n : Int) == 1) = false by simpa using h1i], rfl⟩
end Go.Proofs.Ytophajljjnjcdaa.wd
