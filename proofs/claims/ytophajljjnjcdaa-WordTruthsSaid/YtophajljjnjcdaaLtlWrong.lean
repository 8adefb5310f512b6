/- Formulas: the document's wrong, Check and Is. -/
import Derived.Test.YtophajljjnjcdaaLtlLeft
namespace Go.Proofs.Ytophajljjnjcdaa.lt
open Go.ChangeShapes Go.WideShapes Go.ChangeAt Go.RowKit

set_option maxRecDepth 20000 in
set_option maxHeartbeats 4000000 in
theorem refWrong_any (e : List (Int × Int)) (A : Option Addr) (c m : Nat) (w : World) (hm : m = e.length) (hlm : m ≤ 1000) (hA : PA w A e) :
    Calls Try.prog 54 #[.slice A m c] w fun x w' => x = .returned (.int .i64 (wrF 0 e)) ∧ w = w' := by
  have HM := Lib.hid hm
  obtain ⟨z, HZ⟩ : ∃ z, Hid (wrF 0 e = z) := ⟨_, Lib.hid rfl⟩
  rw [HZ.out]
  by_cases h0 : m = 0
  · subst h0
    have HE : Hid (z = 4) := Lib.hid (by
      have : e = [] := List.eq_nil_of_length_eq_zero hm.symm
      subst this
      exact HZ.out.symm)
    clear hm hA
    go_enter Try.func54, Try.ntmps54
    go_wp2
    go_ret
    exact ⟨by rw [HE.out]; rfl, rfl⟩
  · have h0' : 0 < m := by omega
    clear hm
    obtain ⟨b, o, rfl, hb, hc⟩ := hA (by rw [← HM.out]; omega)
    have HC := Lib.hid hc
    have hm0 : ((m : Int) == 0) = false := by simpa using h0
    clear hA hc
    go_enter Try.func54, Try.ntmps54
    go_wp2
    go_loop [3, 4] (fun nv iv => ∃ (k n : Nat), k ≤ m ∧ n ≤ k ∧ Hid (k = 0 ∨ 0 < n) ∧ iv = .int .i64 k ∧ nv = .int .i64 n ∧ Hid (z = wrF n (e.drop k))) (fun _ iv => m - (intOf iv).toNat)
    case atStart => exact ⟨0, 0, Nat.zero_le _, Nat.le_refl _, Lib.hid (.inl rfl), rfl, rfl, Lib.hid HZ.out.symm⟩
    case round =>
      obtain ⟨k, n, hk, hn, HKN, rfl, rfl, HR⟩ := hrel
      by_cases hlt : k < m
      · obtain ⟨c1, c2⟩ := HC.out k (by rw [← HM.out]; exact hlt)
        have HK : Hid (k < e.length) := Lib.hid (by rw [← HM.out]; exact hlt)
        obtain ⟨op, q, HND⟩ : ∃ op q, Hid (e.getD k (0, 0) = (op, q)) := ⟨_, _, Lib.hid rfl⟩
        rw [HND.out] at c1 c2
        go_wp2_with fail
        refine (refTakes_any op w).mono ?_
        rintro x w' ⟨rfl, rfl⟩
        have HS : Hid (ndW n (op, q) ≠ 0 → z = ndW n (op, q)) := Lib.hid (fun h => by
          rw [HR.out, wr_stop HK.out (by rw [HND.out]; exact h), HND.out])
        have HX : Hid (ndW n (op, q) = 0 → z = wrF (n - (kT op).toNat + 1) (e.drop (k + 1))) := Lib.hid (fun h => by
          rw [HR.out, wr_next HK.out (by rw [HND.out]; exact h), HND.out])
        by_cases hneg : kT op < 0
        · have HE : Hid (z = 3) := Lib.hid (by
            have e1 : ndW n (op, q) = 3 := by unfold ndW; rw [if_pos hneg]
            rw [HS.out (by rw [e1]; decide), e1])
          generalize kT op = t at *
          clear HS HX
          go_wp2
          go_ret
          exact ⟨by rw [HE.out]; rfl, rfl⟩
        · obtain ⟨t, HT⟩ : ∃ t : Nat, Hid (kT op = t) := ⟨(kT op).toNat, Lib.hid (by omega)⟩
          have ht2 : t ≤ 2 := by have := kT_range op; have := HT.out; omega
          rw [HT.out]
          by_cases hsh : n < t
          · have HE : Hid (z = 4) := Lib.hid (by
              have e1 : ndW n (op, q) = 4 := by unfold ndW; rw [if_neg hneg, if_pos (by show (n : Int) < kT op; rw [HT.out]; omega)]
              rw [HS.out (by rw [e1]; decide), e1])
            clear hneg HS HX
            go_wp2
            go_ret
            exact ⟨by rw [HE.out]; rfl, rfl⟩
          · obtain ⟨left, rfl⟩ : ∃ left, n = left + t := ⟨n - t, by omega⟩
            by_cases h3 : op = 3 ∧ (q < 0 ∨ 8 ≤ q)
            · obtain ⟨rfl, hq⟩ := h3
              have HE : Hid (z = 10) := Lib.hid (by
                have e1 : ndW (left + t) (3, q) = 10 := by unfold ndW; rw [if_neg hneg, if_neg (by rw [HT.out]; omega), if_pos ⟨rfl, hq⟩]
                rw [HS.out (by rw [e1]; decide), e1])
              clear hneg HS HX
              by_cases hq0 : q < 0
              · clear hq
                go_wp2
                go_ret
                exact ⟨by rw [HE.out]; rfl, rfl⟩
              · have hq8 : 8 ≤ q := by omega
                clear hq
                go_wp2
                go_ret
                exact ⟨by rw [HE.out]; rfl, rfl⟩
            · have HE : Hid (z = wrF (left + 1) (e.drop (k + 1))) := Lib.hid (by
                have e1 : ndW (left + t) (op, q) = 0 := by unfold ndW; rw [if_neg hneg, if_neg (by show ¬ ((left + t : Nat) : Int) < kT op; rw [HT.out]; omega), if_neg h3]
                rw [HX.out e1, HT.out]
                congr 1
                simp)
              have hr : ((left + t : Nat) : Int) - t + 1 = ((left + 1 : Nat) : Int) := by omega
              clear hneg HS HX
              by_cases ho : op = 3
              · subst ho
                have hq0 : ¬ q < 0 := fun h => h3 ⟨rfl, .inl h⟩
                have hq8 : ¬ 8 ≤ q := fun h => h3 ⟨rfl, .inr h⟩
                clear h3
                have HRR := Lib.hid hr
                clear hr
                go_wp2
                go_round
                case rel => exact ⟨k + 1, left + 1, by omega, by omega, Lib.hid (.inr (by omega)), by go_num, by go_num, HE⟩
                case measure => simp [intOf]; omega
              · clear h3
                have HRR := Lib.hid hr
                clear hr
                go_wp2
                go_round
                case rel => exact ⟨k + 1, left + 1, by omega, by omega, Lib.hid (.inr (by omega)), by go_num, by go_num, HE⟩
                case measure => simp [intOf]; omega
      · obtain rfl : k = m := by omega
        have HE : Hid (z = if n = 0 then 4 else if 1 < n then 5 else 0) := Lib.hid (by rw [HR.out, wr_end (by rw [HM.out]; exact Nat.le_refl _)])
        by_cases hn1 : 1 < n
        · have HE2 : Hid (z = 5) := Lib.hid (by rw [HE.out, if_neg (by omega), if_pos hn1])
          clear HE
          go_wp2
          go_ret
          exact ⟨by rw [HE2.out]; rfl, rfl⟩
        · have HE2 : Hid (z = 0) := Lib.hid (by rw [HE.out, if_neg (by have := HKN.out; omega), if_neg hn1])
          clear HE
          go_wp2
          go_ret
          exact ⟨by rw [HE2.out]; rfl, rfl⟩

theorem refIs_any (e : List (Int × Int)) (A : Option Addr) (c m : Nat) (w : World) (hm : m = e.length) (hlm : m ≤ 1000) (hA : PA w A e) :
    Calls Try.prog 43 #[.slice A m c] w fun x w' => x = .returned (.bool (isF e)) ∧ w = w' := by
  have HW := Lib.hid (refWrong_any e A c m w hm hlm hA)
  clear hm hA
  obtain ⟨b, HB⟩ : ∃ b, Hid (isF e = b) := ⟨_, Lib.hid rfl⟩
  obtain ⟨z, HZ⟩ : ∃ z, Hid (wrF 0 e = z) := ⟨_, Lib.hid rfl⟩
  have HE : Hid (b = (z == 0)) := Lib.hid (by rw [← HB.out, ← HZ.out]; unfold isF; rfl)
  rw [HB.out]
  go_enter Try.func43, Try.ntmps43
  go_wp2_with fail
  refine HW.out.mono ?_
  rintro x w' ⟨rfl, rfl⟩
  rw [HZ.out]
  go_wp2
  go_ret
  exact ⟨by rw [HE.out]; rfl, rfl⟩
end Go.Proofs.Ytophajljjnjcdaa.lt
