/- The document's fact, Rank, Unrank. -/
import Derived.Test.YtkaddfbnlkmehaaRefPerm
import Derived.Test.YtkaddfbnlkmehaaPermRkPure
namespace Go.Proofs.Ytkaddfbnlkmehaa
open Go.ChangeShapes Go.WideShapes Go.ChangeAt Go.RowKit

theorem fct_mono {a b : Nat} (h : a ≤ b) : fct a ≤ fct b := by
  induction b with
  | zero => obtain rfl : a = 0 := by omega
            exact Nat.le_refl _
  | succ b ih =>
    by_cases e : a = b + 1
    · subst e; exact Nat.le_refl _
    · refine Nat.le_trans (ih (by omega)) ?_
      rw [fct]
      exact Nat.le_mul_of_pos_left _ (by omega)
set_option maxHeartbeats 1000000 in
theorem fact_any (n : Nat) (w : World) (hn : n ≤ 8) : Calls Try.prog 59 #[.int .i64 n] w fun e w' => e = .returned (.int .i64 (fct n : Nat)) ∧ w = w' := by
  by_cases h2 : n < 2
  · have HE : Hid ((1 : Int) = ((fct n : Nat) : Int)) := Lib.hid (by
      have : n = 0 ∨ n = 1 := by omega
      rcases this with rfl | rfl <;> rfl)
    go_enter Try.func59, Try.ntmps59
    go_wp2
    go_loopw [3, 4] (fun f i wr => f = .int .i64 1 ∧ i = .int .i64 2 ∧ w = wr) (fun _ _ _ => 0)
    case atStart => exact ⟨rfl, rfl, rfl⟩
    case round =>
      obtain ⟨rfl, rfl, rfl⟩ := hrel
      go_wp2
      go_ret
      exact ⟨ret_int HE.out, rfl⟩
  · have h2' : 2 ≤ n := by omega
    go_enter Try.func59, Try.ntmps59
    go_wp2
    go_loopw [3, 4] (fun f i wr => ∃ k : Nat, 1 ≤ k ∧ k ≤ n ∧ f = .int .i64 (fct k : Nat) ∧ i = .int .i64 ((k : Int) + 1) ∧ w = wr) (fun _ i _ => (n + 1 - intOf i).toNat)
    case atStart => exact ⟨1, by omega, by omega, rfl, rfl, rfl⟩
    case round =>
      obtain ⟨k, h1, hk, rfl, rfl, rfl⟩ := hrel
      have HF : Hid (fct (k + 1) = (k + 1) * fct k) := Lib.hid rfl
      have HB : Hid (k < n → fct (k + 1) ≤ 40320) := Lib.hid (fun h => fct_le (by omega))
      by_cases hlt : k < n
      · have hb := HB.out hlt
        have HM : Hid (((fct k : Nat) : Int) * ((k : Int) + 1) = ((fct (k + 1) : Nat) : Int)) := Lib.hid (by rw [HF.out, Int.natCast_mul, Int.mul_comm]; rfl)
        have hb2 : 0 ≤ ((fct k : Nat) : Int) * ((k : Int) + 1) ∧ ((fct k : Nat) : Int) * ((k : Int) + 1) ≤ 40320 := by rw [HM.out]; omega
        obtain ⟨hb3, hb4⟩ := hb2
        clear hb
        go_wp2
        rw [HM.out]
        refine ⟨⟨k + 1, by omega, by omega, rfl, by go_num, by trivial⟩, ?_⟩
        simp [intOf]
        omega
      · obtain rfl : k = n := by omega
        go_wp2
        go_ret
        exact ⟨rfl, rfl⟩

theorem rr_small {p : List Int} (h : Prm p) {k : Nat} (hk : k ≤ p.length) : rr p k < 40320 := by
  have h1 := rr_mono p hk
  rw [rk_full h] at h1
  have h2 := rk_small h (Nat.le_refl p.length)
  omega

set_option maxRecDepth 100000 in
set_option maxHeartbeats 4000000 in
theorem refRank_yes (A : Option Addr) (c m : Nat) (p : List Int) (w : World) (hm : m = p.length) (hA : IA w A p) (hp : Prm p) :
    Calls Try.prog 40 #[.slice A m c] w fun e w' => e = .returned (.int .i64 (rk p m : Nat)) ∧ ∃ j, w' = w.drewN j := by
  have HM := Lib.hid hm
  have HA := Lib.hid hA
  have hm8 : m ≤ 8 := by have := hp.len; omega
  have HLA : Hid (p.length ≤ 1000000) := Lib.hid (by have := hp.len; omega)
  have HC := Lib.hid (chk_iff.2 hp)
  have HP := Lib.hid hp
  have HF : Hid (rr p m = rk p m) := Lib.hid (by rw [hm]; exact rk_full hp)
  have hmx : Try.prog.follows .mixedOrders = true := by kernel_rfl
  clear hm hA hp
  go_enter Try.func40, Try.ntmps40
  go_wp2_with fail
  refine (refCheck_any A c m p w HM.out HA.out HLA.out).mono ?_
  rintro e w' ⟨rfl, rfl⟩
  rw [HC.out]
  go_wp2
  go_loopw [3, 4] (fun r i wr => ∃ k : Nat, k ≤ m ∧ r = .int .i64 (rr p k : Nat) ∧ i = .int .i64 k ∧ ∃ j, wr = w.drewN j) (fun _ i _ => m - (intOf i).toNat)
  case atStart => exact ⟨0, by omega, rfl, rfl, 0, rfl⟩
  case round =>
    obtain ⟨k, hk, rfl, rfl, j, rfl⟩ := hrel
    by_cases hlt : k < m
    · go_wp2
      go_loopw [5, 6] (fun l q wr => ∃ t : Nat, k + 1 + t ≤ m ∧ l = .int .i64 (lsn p k t : Nat) ∧ q = .int .i64 ((k + 1 + t : Nat) : Int) ∧ ∃ j, wr = w.drewN j) (fun _ q _ => m - (intOf q).toNat)
      case atStart => exact ⟨0, by omega, rfl, rfl, j, rfl⟩
      case round =>
        obtain ⟨t, ht, rfl, rfl, j2, rfl⟩ := hrel
        have HLE := Lib.hid (lsn_le p k t)
        have hle : lsn p k t ≤ 8 := by have := HLE.out; omega
        by_cases hlt2 : k + 1 + t < m
        · obtain ⟨b, o, rfl, hb, hc⟩ := HA.out.at_ (i := k) (by rw [← HM.out]; exact hlt)
          obtain ⟨b', o', e', hb', hc'⟩ := HA.out.at_ (i := k + 1 + t) (by rw [← HM.out]; exact hlt2)
          injection e' with e'
          injection e' with e1 e2
          subst e1 e2
          have HS : Hid (lsn p k (t + 1) = lsn p k t + if p.getD (k + 1 + t) 0 < p.getD k 0 then 1 else 0) := Lib.hid rfl
          generalize p.getD (k + 1 + t) 0 = x at hc' HS
          generalize p.getD k 0 = y at hc HS
          generalize lsn p k t = l at *
          by_cases hxy : x < y
          · have HS2 : Hid (lsn p k (t + 1) = l + 1) := Lib.hid (by rw [HS.out, if_pos hxy])
            clear HS
            go_wp2
            go_quiet (fail)
            go_wp2
            go_roundw
            case rel => exact ⟨t + 1, by omega, by rw [HS2.out]; rfl, by go_num, _, rfl⟩
            case measure => simp [intOf]; omega
          · have HS2 : Hid (lsn p k (t + 1) = l) := Lib.hid (by rw [HS.out, if_neg hxy]; rfl)
            clear HS
            go_wp2
            go_quiet (fail)
            go_wp2
            go_roundw
            case rel => exact ⟨t + 1, by omega, by rw [HS2.out], by go_num, _, rfl⟩
            case measure => simp [intOf]; omega
        · obtain rfl : m = k + 1 + t := by omega
          clear hlt hlt2 ht hk
          have HDN : Hid ((k : Int) + 1 + (t : Int) - 1 - (k : Int) = (t : Int)) := Lib.hid (by omega)
          have HR : Hid (rr p (k + 1) = rr p k + lsn p k t * fct t) := Lib.hid (by rw [rr, ← HM.out, show k + 1 + t - 1 - k = t by omega])
          have HB : Hid (rr p (k + 1) < 40320) := Lib.hid (rr_small HP.out (by rw [← HM.out]; omega))
          have HZ : Hid (((rr p k : Nat) : Int) + ((lsn p k t : Nat) : Int) * ((fct t : Nat) : Int) = ((rr p (k + 1) : Nat) : Int)) := Lib.hid (by rw [HR.out, Int.natCast_add, Int.natCast_mul])
          have hz1 : 0 ≤ ((lsn p k t : Nat) : Int) * ((fct t : Nat) : Int) := by rw [← Int.natCast_mul]; omega
          have hz2 : ((rr p k : Nat) : Int) + ((lsn p k t : Nat) : Int) * ((fct t : Nat) : Int) < 40320 := by rw [HZ.out]; have := HB.out; omega
          have hz3 : 0 ≤ ((rr p k : Nat) : Int) := by omega
          go_wp2_with fail
          rw [HDN.out]
          refine (fact_any t _ (by omega)).mono ?_
          rintro e w' ⟨rfl, rfl⟩
          go_wp2
          rw [HZ.out]
          refine ⟨⟨k + 1, by omega, rfl, by go_num, _, rfl⟩, ?_⟩
          simp [intOf]
          omega
    · obtain rfl : k = m := by omega
      rw [HF.out]
      go_wp2
      go_ret
      exact ⟨rfl, _, rfl⟩
theorem refRank_no (A : Option Addr) (c m : Nat) (p : List Int) (w : World) (hm : m = p.length) (hA : IA w A p) (ha : p.length ≤ 1000000) (hc : chk p = false) :
    Calls Try.prog 40 #[.slice A m c] w fun e w' => e = .returned (.int .i64 (-1)) ∧ ∃ j, w' = w.drewN j := by
  have HM := Lib.hid hm
  have HA := Lib.hid hA
  have HLA := Lib.hid ha
  have HC := Lib.hid hc
  clear hm hA ha hc
  go_enter Try.func40, Try.ntmps40
  go_wp2_with fail
  refine (refCheck_any A c m p w HM.out HA.out HLA.out).mono ?_
  rintro e w' ⟨rfl, rfl⟩
  rw [HC.out]
  go_wp2
  go_ret
  exact ⟨rfl, 0, rfl⟩
end Go.Proofs.Ytkaddfbnlkmehaa
