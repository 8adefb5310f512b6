/- Sums, differences and products of the program and of the document. -/
import Derived.Test.YtgbnafakaaooiaaLaw
import Derived.LoopN
namespace Go.Proofs.Ytgbnafakaaooiaa.numSums
open Go.ChangeShapes Go.WideShapes Go.ChangeAt Go.RowKit

theorem ia_two' (w : World) (a b : Int) (t : TypeId) (n : Nat) (hn : n = w.heap.size) : IA (w.alloc (.cells #[.int .i64 a, .int .i64 b] t)) (some ⟨n, 0, none⟩) [a, b] := by subst hn; exact ia_lit w [a, b] _ t rfl
theorem fits_yes (n lo hi : Int) (w : World) (h1 : lo ≤ n) (h2 : n ≤ hi) :
    Calls Try.prog 48 #[.int .i64 n, .int .i64 lo, .int .i64 hi] w fun e w' => e = .returned (.bool true) ∧ w = w' := by
  go_enter Try.func48, Try.ntmps48
  go_wp2
  go_ret
  exact ⟨rfl, rfl⟩

theorem fits_no (n lo hi : Int) (w : World) (h : n < lo ∨ hi < n) :
    Calls Try.prog 48 #[.int .i64 n, .int .i64 lo, .int .i64 hi] w fun e w' => e = .returned (.bool false) ∧ w = w' := by
  by_cases h1 : n < lo
  · go_enter Try.func48, Try.ntmps48
    go_wp2
    go_ret
    exact ⟨rfl, rfl⟩
  · have h2 : ¬ n ≤ hi := by omega
    have h3 : lo ≤ n := by omega
    go_enter Try.func48, Try.ntmps48
    go_wp2
    go_ret
    exact ⟨rfl, rfl⟩

def In (z : Int) : Prop := -1048576 ≤ z ∧ z ≤ 1048576

theorem within_yes (A : Option Addr) (c : Nat) (zs : List Int) (w : World) (hA : IA w A zs) (hl : zs.length ≤ 10) (h : ∀ i, i < zs.length → In (zs.getD i 0)) :
    Calls Try.prog 78 #[.slice A zs.length c] w fun e w' => e = .returned (.bool true) ∧ w = w' := by
  have HH := Lib.hid h
  clear h
  go_enter Try.func78, Try.ntmps78
  go_wp2
  go_loop [7] (fun i => ∃ (k : Nat), k ≤ zs.length ∧ i = .int .i64 k) (fun i => zs.length - (intOf i).toNat)
  case atStart => exact ⟨0, Nat.zero_le _, rfl⟩
  case round =>
    obtain ⟨k, hk, rfl⟩ := hrel
    by_cases hlt : k < zs.length
    · obtain ⟨bA, oA, rfl, hbA, hcA⟩ := hA (by omega)
      have c1 := hcA k hlt
      obtain ⟨v1, v2⟩ := HH.out k hlt
      generalize zs.getD k 0 = x at c1 v1 v2
      clear hcA hA
      go_wp2_with (go_at_call 48; refine (fits_yes _ _ _ _ v1 v2).mono ?_; rintro e w' ⟨rfl, rfl⟩)
      go_round
      case rel => exact ⟨k + 1, by omega, by go_num⟩
      case measure => simp [intOf]; omega
    · go_wp2
      go_ret
      exact ⟨rfl, rfl⟩

theorem within_no1 (A : Option Addr) (c : Nat) (x : Int) (w : World) (hA : IA w A [x]) (h : ¬ In x) :
    Calls Try.prog 78 #[.slice A 1 c] w fun e w' => e = .returned (.bool false) ∧ w = w' := by
  have v : Hid (x < -1048576 ∨ 1048576 < x) := Lib.hid (by unfold In at h; omega)
  obtain ⟨bA, oA, rfl, hbA, hcA⟩ := hA (by simp)
  have c1 : w.cell? ⟨bA, oA, none⟩ = some (.int .i64 x) := hcA 0 (by simp)
  clear hcA hA h
  go_enter Try.func78, Try.ntmps78
  go_wp2
  refine wp_loop_rounds 1 ?_
  rw [rounds_succ]
  go_wp2_with (go_at_call 48; refine (fits_no _ _ _ _ v.out).mono ?_; rintro e w' ⟨rfl, rfl⟩)
  go_ret
  exact ⟨rfl, rfl⟩

theorem within_no2 (A : Option Addr) (c : Nat) (x y : Int) (w : World) (hA : IA w A [x, y]) (h : ¬ (In x ∧ In y)) :
    Calls Try.prog 78 #[.slice A 2 c] w fun e w' => e = .returned (.bool false) ∧ w = w' := by
  obtain ⟨bA, oA, rfl, hbA, hcA⟩ := hA (by simp)
  have c1 : w.cell? ⟨bA, oA, none⟩ = some (.int .i64 x) := hcA 0 (by simp)
  have c2 : w.cell? ⟨bA, oA + 1, none⟩ = some (.int .i64 y) := hcA 1 (by simp)
  clear hcA hA
  by_cases hx : In x
  · have v : Hid (y < -1048576 ∨ 1048576 < y) := Lib.hid (by unfold In at h hx; omega)
    obtain ⟨v1, v2⟩ := hx
    clear h
    go_enter Try.func78, Try.ntmps78
    go_wp2
    refine wp_loop_rounds 2 ?_
    rw [rounds_succ]
    go_wp2_with (first | (go_at_call 48; refine (fits_yes _ _ _ _ v1 v2).mono ?_; rintro e w' ⟨rfl, rfl⟩))
    rw [rounds_succ]
    go_wp2_with (first | (go_at_call 48; refine (fits_no _ _ _ _ v.out).mono ?_; rintro e w' ⟨rfl, rfl⟩))
    go_ret
    exact ⟨rfl, rfl⟩
  · have v : Hid (x < -1048576 ∨ 1048576 < x) := Lib.hid (by unfold In at hx; omega)
    clear h hx
    go_enter Try.func78, Try.ntmps78
    go_wp2
    refine wp_loop_rounds 2 ?_
    rw [rounds_succ]
    go_wp2_with (go_at_call 48; refine (fits_no _ _ _ _ v.out).mono ?_; rintro e w' ⟨rfl, rfl⟩)
    go_ret
    exact ⟨rfl, rfl⟩

theorem ia_one (w : World) (a : Int) (t : TypeId) (n : Nat) (hn : n = w.heap.size) : IA (w.alloc (.cells #[.int .i64 a] t)) (some ⟨n, 0, none⟩) [a] := by subst hn; exact ia_lit w [a] _ t rfl
theorem within_yes1 (A : Option Addr) (c : Nat) (x : Int) (w : World) (hA : IA w A [x]) (h : In x) :
    Calls Try.prog 78 #[.slice A 1 c] w fun e w' => e = .returned (.bool true) ∧ w = w' :=
  within_yes A c [x] w hA (by simp) (fun i hi => by
    match i, hi with
    | 0, _ => exact h
    | i + 1, hi => simp at hi)
theorem within_yes2 (A : Option Addr) (c : Nat) (x y : Int) (w : World) (hA : IA w A [x, y]) (h : In x ∧ In y) :
    Calls Try.prog 78 #[.slice A 2 c] w fun e w' => e = .returned (.bool true) ∧ w = w' :=
  within_yes A c [x, y] w hA (by simp) (fun i hi => by
    match i, hi with
    | 0, _ => exact h.1
    | 1, _ => exact h.2
    | i + 2, hi => exact absurd hi (by simp))

theorem mul_le_aux (a b : Int) (ha : 0 ≤ a ∧ a ≤ 1048576) (hb : 0 ≤ b ∧ b ≤ 1048576) : 0 ≤ a * b ∧ a * b ≤ 1099511627776 := by
  have h1 := Int.mul_nonneg ha.1 hb.1
  have h2 := Int.mul_le_mul ha.2 hb.2 hb.1 (by omega : (0 : Int) ≤ 1048576)
  omega
theorem mul_bd (a b : Int) (ha : In a) (hb : In b) : -1099511627776 ≤ a * b ∧ a * b ≤ 1099511627776 := by
  unfold In at ha hb
  by_cases h1 : 0 ≤ a <;> by_cases h2 : 0 ≤ b
  · have := mul_le_aux a b ⟨h1, ha.2⟩ ⟨h2, hb.2⟩; omega
  · have := mul_le_aux a (-b) ⟨h1, ha.2⟩ ⟨by omega, by omega⟩
    rw [Int.mul_neg] at this; omega
  · have := mul_le_aux (-a) b ⟨by omega, by omega⟩ ⟨h2, hb.2⟩
    rw [Int.neg_mul] at this; omega
  · have := mul_le_aux (-a) (-b) ⟨by omega, by omega⟩ ⟨by omega, by omega⟩
    rw [Int.neg_mul_neg] at this; omega

def OpPost (r : Option Int) (W : World) (e : Ending) (w' : World) : Prop := Below W.heap.size W w' ∧ e = .returned (.tuple #[.int .i64 (r.getD 0), .bool r.isSome])
def told (a b n : Int) : Option Int := if -1048576 ≤ a ∧ a ≤ 1048576 ∧ -1048576 ≤ b ∧ b ≤ 1048576 ∧ -1048576 ≤ n ∧ n ≤ 1048576 then some n else none

set_option maxHeartbeats 400000 in
theorem add_any (a b : Int) (w : World) :
    Calls Try.prog 63 #[.int .i64 a, .int .i64 b] w (OpPost (told a b (a + b)) w) := by
  by_cases hin : In a ∧ In b
  · obtain ⟨⟨a1, a2⟩, b1, b2⟩ := id hin
    have r1 : -1099511627776 ≤ a + b := by omega
    have r2 : a + b ≤ 1099511627776 := by omega
    by_cases hc : In (a + b)
    · have HT : Hid (told a b (a + b) = some (a + b)) := Lib.hid (by unfold In at hc; unfold told; rw [if_pos (by omega)])
      have HN := Lib.hid hin
      have HC := Lib.hid hc
      clear hin hc
      go_enter Try.func63, Try.ntmps63
      go_wp2_with fail
      go_in
      go_wp2_with fail
      refine (within_yes2 _ _ _ _ _ (ia_two' _ _ _ _ _ (by simp)) HN.out).mono ?_
      rintro e w' ⟨rfl, rfl⟩
      go_wp2_with fail
      go_in
      go_wp2_with fail
      refine (within_yes1 _ _ _ _ (ia_one _ _ _ _ (by simp)) HC.out).mono ?_
      rintro e w' ⟨rfl, rfl⟩
      go_wp2_with fail
      go_ret2
      exact ⟨(((Below.refl _ _).alloc (Nat.le_refl _) _).alloc (by simp) _).alloc (by simp; omega) _, by rw [HT.out]; rfl⟩
    · have HT : Hid (told a b (a + b) = none) := Lib.hid (by unfold In at hc; unfold told; rw [if_neg (by omega)])
      have HN := Lib.hid hin
      have HC := Lib.hid hc
      clear hin hc
      go_enter Try.func63, Try.ntmps63
      go_wp2_with fail
      go_in
      go_wp2_with fail
      refine (within_yes2 _ _ _ _ _ (ia_two' _ _ _ _ _ (by simp)) HN.out).mono ?_
      rintro e w' ⟨rfl, rfl⟩
      go_wp2_with fail
      go_in
      go_wp2_with fail
      refine (within_no1 _ _ _ _ (ia_one _ _ _ _ (by simp)) HC.out).mono ?_
      rintro e w' ⟨rfl, rfl⟩
      go_wp2_with fail
      go_ret2
      exact ⟨(((Below.refl _ _).alloc (Nat.le_refl _) _).alloc (by simp) _).alloc (by simp; omega) _, by rw [HT.out]; rfl⟩
  · have HT : Hid (told a b (a + b) = none) := Lib.hid (by unfold In at hin; unfold told; rw [if_neg (by omega)])
    have HN := Lib.hid hin
    clear hin
    go_enter Try.func63, Try.ntmps63
    go_wp2_with fail
    go_in
    go_wp2_with fail
    refine (within_no2 _ _ _ _ _ (ia_two' _ _ _ _ _ (by simp)) HN.out).mono ?_
    rintro e w' ⟨rfl, rfl⟩
    go_wp2_with fail
    go_ret2
    exact ⟨((Below.refl _ _).alloc (Nat.le_refl _) _).alloc (by simp) _, by rw [HT.out]; rfl⟩

set_option maxHeartbeats 400000 in
theorem sub_any (a b : Int) (w : World) :
    Calls Try.prog 62 #[.int .i64 a, .int .i64 b] w (OpPost (told a b (a - b)) w) := by
  by_cases hin : In a ∧ In b
  · obtain ⟨⟨a1, a2⟩, b1, b2⟩ := id hin
    have r1 : -1099511627776 ≤ a - b := by omega
    have r2 : a - b ≤ 1099511627776 := by omega
    by_cases hc : In (a - b)
    · have HT : Hid (told a b (a - b) = some (a - b)) := Lib.hid (by unfold In at hc; unfold told; rw [if_pos (by omega)])
      have HN := Lib.hid hin
      have HC := Lib.hid hc
      clear hin hc
      go_enter Try.func62, Try.ntmps62
      go_wp2_with fail
      go_in
      go_wp2_with fail
      refine (within_yes2 _ _ _ _ _ (ia_two' _ _ _ _ _ (by simp)) HN.out).mono ?_
      rintro e w' ⟨rfl, rfl⟩
      go_wp2_with fail
      go_in
      go_wp2_with fail
      refine (within_yes1 _ _ _ _ (ia_one _ _ _ _ (by simp)) HC.out).mono ?_
      rintro e w' ⟨rfl, rfl⟩
      go_wp2_with fail
      go_ret2
      exact ⟨(((Below.refl _ _).alloc (Nat.le_refl _) _).alloc (by simp) _).alloc (by simp; omega) _, by rw [HT.out]; rfl⟩
    · have HT : Hid (told a b (a - b) = none) := Lib.hid (by unfold In at hc; unfold told; rw [if_neg (by omega)])
      have HN := Lib.hid hin
      have HC := Lib.hid hc
      clear hin hc
      go_enter Try.func62, Try.ntmps62
      go_wp2_with fail
      go_in
      go_wp2_with fail
      refine (within_yes2 _ _ _ _ _ (ia_two' _ _ _ _ _ (by simp)) HN.out).mono ?_
      rintro e w' ⟨rfl, rfl⟩
      go_wp2_with fail
      go_in
      go_wp2_with fail
      refine (within_no1 _ _ _ _ (ia_one _ _ _ _ (by simp)) HC.out).mono ?_
      rintro e w' ⟨rfl, rfl⟩
      go_wp2_with fail
      go_ret2
      exact ⟨(((Below.refl _ _).alloc (Nat.le_refl _) _).alloc (by simp) _).alloc (by simp; omega) _, by rw [HT.out]; rfl⟩
  · have HT : Hid (told a b (a - b) = none) := Lib.hid (by unfold In at hin; unfold told; rw [if_neg (by omega)])
    have HN := Lib.hid hin
    clear hin
    go_enter Try.func62, Try.ntmps62
    go_wp2_with fail
    go_in
    go_wp2_with fail
    refine (within_no2 _ _ _ _ _ (ia_two' _ _ _ _ _ (by simp)) HN.out).mono ?_
    rintro e w' ⟨rfl, rfl⟩
    go_wp2_with fail
    go_ret2
    exact ⟨((Below.refl _ _).alloc (Nat.le_refl _) _).alloc (by simp) _, by rw [HT.out]; rfl⟩

set_option maxHeartbeats 400000 in
theorem mul_any (a b : Int) (w : World) :
    Calls Try.prog 64 #[.int .i64 a, .int .i64 b] w (OpPost (told a b (a * b)) w) := by
  by_cases hin : In a ∧ In b
  · obtain ⟨⟨a1, a2⟩, b1, b2⟩ := id hin
    have r1 := (mul_bd a b hin.1 hin.2).1
    have r2 := (mul_bd a b hin.1 hin.2).2
    by_cases hc : In (a * b)
    · have HT : Hid (told a b (a * b) = some (a * b)) := Lib.hid (by unfold In at hc; unfold told; rw [if_pos (by omega)])
      have HN := Lib.hid hin
      have HC := Lib.hid hc
      clear hin hc
      go_enter Try.func64, Try.ntmps64
      go_wp2_with fail
      go_in
      go_wp2_with fail
      refine (within_yes2 _ _ _ _ _ (ia_two' _ _ _ _ _ (by simp)) HN.out).mono ?_
      rintro e w' ⟨rfl, rfl⟩
      go_wp2_with fail
      go_in
      go_wp2_with fail
      refine (within_yes1 _ _ _ _ (ia_one _ _ _ _ (by simp)) HC.out).mono ?_
      rintro e w' ⟨rfl, rfl⟩
      go_wp2_with fail
      go_ret2
      exact ⟨(((Below.refl _ _).alloc (Nat.le_refl _) _).alloc (by simp) _).alloc (by simp; omega) _, by rw [HT.out]; rfl⟩
    · have HT : Hid (told a b (a * b) = none) := Lib.hid (by unfold In at hc; unfold told; rw [if_neg (by omega)])
      have HN := Lib.hid hin
      have HC := Lib.hid hc
      clear hin hc
      go_enter Try.func64, Try.ntmps64
      go_wp2_with fail
      go_in
      go_wp2_with fail
      refine (within_yes2 _ _ _ _ _ (ia_two' _ _ _ _ _ (by simp)) HN.out).mono ?_
      rintro e w' ⟨rfl, rfl⟩
      go_wp2_with fail
      go_in
      go_wp2_with fail
      refine (within_no1 _ _ _ _ (ia_one _ _ _ _ (by simp)) HC.out).mono ?_
      rintro e w' ⟨rfl, rfl⟩
      go_wp2_with fail
      go_ret2
      exact ⟨(((Below.refl _ _).alloc (Nat.le_refl _) _).alloc (by simp) _).alloc (by simp; omega) _, by rw [HT.out]; rfl⟩
  · have HT : Hid (told a b (a * b) = none) := Lib.hid (by unfold In at hin; unfold told; rw [if_neg (by omega)])
    have HN := Lib.hid hin
    clear hin
    go_enter Try.func64, Try.ntmps64
    go_wp2_with fail
    go_in
    go_wp2_with fail
    refine (within_no2 _ _ _ _ _ (ia_two' _ _ _ _ _ (by simp)) HN.out).mono ?_
    rintro e w' ⟨rfl, rfl⟩
    go_wp2_with fail
    go_ret2
    exact ⟨((Below.refl _ _).alloc (Nat.le_refl _) _).alloc (by simp) _, by rw [HT.out]; rfl⟩

def TPost (r : Option Int) (W : World) (e : Ending) (w' : World) : Prop := W = w' ∧ e = .returned (.tuple #[.int .i64 (r.getD 0), .bool r.isSome])
theorem told_out {a b m n : Int} (h : ¬ (In a ∧ In b)) : told a b m = told a b n := by
  unfold In at h; unfold told; rw [if_neg (by omega), if_neg (by omega)]

end Go.Proofs.Ytgbnafakaaooiaa.numSums
