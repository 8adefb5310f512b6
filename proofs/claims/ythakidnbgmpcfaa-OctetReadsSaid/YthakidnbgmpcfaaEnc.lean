/- The bytes of a number: octet's and the document's. -/
import Derived.Test.YthakidnbgmpcfaaBytes
namespace Go.Proofs.Ythakidnbgmpcfaa
open Go.ChangeShapes Go.WideShapes Go.ChangeAt Go.RowKit

/-- The number of 64 bits whose bytes are n's. -/
def unsN (n : Int) : Nat := if n < 0 then 2 * (-n - 1).toNat + 1 else 2 * n.toNat
/-- The bytes of a number of 64 bits. -/
def encU (u : Nat) : List Int := if h : u < 128 then [(u : Int)] else ((u % 128 + 128 : Nat) : Int) :: encU (u / 128)
termination_by u
decreasing_by omega
def enc (n : Int) : List Int := encU (unsN n)

theorem encU_small {u : Nat} (h : u < 128) : encU u = [(u : Int)] := by rw [encU, dif_pos h]
theorem encU_big {u : Nat} (h : 128 ≤ u) : encU u = ((u % 128 + 128 : Nat) : Int) :: encU (u / 128) := by rw [encU, dif_neg (by omega)]
theorem encU_len : ∀ (k u : Nat), u < 128 ^ (k + 1) → (encU u).length ≤ k + 1
  | 0, u, h => by rw [encU_small (by omega)]; simp
  | k + 1, u, h => by
    by_cases hu : u < 128
    · rw [encU_small hu]; simp
    · rw [encU_big (by omega)]
      have h2 : u / 128 < 128 ^ (k + 1) := by
        rw [Nat.pow_succ] at h
        exact Nat.div_lt_of_lt_mul (by rw [Nat.mul_comm]; exact h)
      have := encU_len k (u / 128) h2
      simp only [List.length_cons]
      omega
theorem encU_pos (u : Nat) : 0 < (encU u).length := by
  by_cases hu : u < 128
  · rw [encU_small hu]; simp
  · rw [encU_big (by omega)]; simp
theorem encU_u8 (u : Nat) : U8 (encU u) := by
  induction u using Nat.strongRecOn with
  | _ u ih =>
    by_cases hu : u < 128
    · rw [encU_small hu]; intro z hz; simp at hz; omega
    · rw [encU_big (by omega)]
      intro z hz
      simp only [List.mem_cons] at hz
      rcases hz with rfl | hz
      · omega
      · exact ih (u / 128) (by omega) z hz
theorem unsN_lt {n : Int} (h1 : -9223372036854775808 ≤ n) (h2 : n ≤ 9223372036854775807) : unsN n < 18446744073709551616 := by unfold unsN; split <;> omega
theorem enc_len {n : Int} (h1 : -9223372036854775808 ≤ n) (h2 : n ≤ 9223372036854775807) : (enc n).length ≤ 10 :=
  encU_len 9 _ (Nat.lt_of_lt_of_le (unsN_lt h1 h2) (by decide))

theorem ret_u64 {a b : Int} (h : a = b) : Ending.returned (.int .u64 a) = .returned (.int .u64 b) := by rw [h]

theorem i64_compl (n : Int) (h1 : -9223372036854775808 ≤ n) (h2 : n ≤ 9223372036854775807) : bits .xor .i64 (-1) n = -n - 1 := by
  show IntKind.i64.wrap ((BitVec.ofInt 64 (-1) ^^^ BitVec.ofInt 64 n).toNat : Int) = _
  have e1 : BitVec.ofInt 64 (-1) = BitVec.allOnes 64 := by decide
  rw [e1, BitVec.allOnes_xor, BitVec.toNat_not, IntKind.wrap_i64]
  have e2 : ((BitVec.ofInt 64 n).toNat : Int) = n % 18446744073709551616 := by
    rw [BitVec.toNat_ofInt]
    omega
  omega

theorem unsigned_any (n : Int) (w : World) (h1 : -9223372036854775808 ≤ n) (h2 : n ≤ 9223372036854775807) :
    Calls Try.prog 35 #[.int .i64 n] w fun e w' => e = .returned (.int .u64 (unsN n : Int)) ∧ w = w' := by
  by_cases h : n < 0
  · have e : ((unsN n : Nat) : Int) = (-n - 1) * 2 + 1 := by unfold unsN; rw [if_pos h]; omega
    have H := Lib.hid e
    have hx := i64_compl n h1 h2
    clear e
    go_enter Try.func35, Try.ntmps35
    go_wp2
    go_ret
    exact ⟨ret_u64 (by rw [H.out]; simp only [IntKind.wrap_u64]; omega), rfl⟩
  · have e : ((unsN n : Nat) : Int) = n * 2 := by unfold unsN; rw [if_neg h]; omega
    have H := Lib.hid e
    have h3 : 0 ≤ n := by omega
    clear e h
    go_enter Try.func35, Try.ntmps35
    go_wp2
    go_ret
    exact ⟨ret_u64 (by rw [H.out]), rfl⟩

/-- A row of the call's own that has become l. -/
def Numbered (base : Nat) (l : List Int) (W : World) (e : Ending) (w' : World) : Prop := ∃ v', e = .returned v' ∧ OB base w' v' l ∧ Below base W w'

set_option maxRecDepth 20000 in
set_option maxHeartbeats 1000000 in
theorem number_any (base : Nat) (v : Value) (l : List Int) (n : Int) (w : World) (hown : OB base w v l) (hb : base ≤ w.heap.size) (hl : l.length ≤ 70368744177664) (hn1 : -9223372036854775808 ≤ n) (hn2 : n ≤ 9223372036854775807) :
    Calls Try.prog 31 #[v, .int .i64 n] w (Numbered base (l ++ enc n) w) := by
  obtain ⟨i0, hi, hz0, hz1, hz2⟩ := info_parts Try.info5
  have hlen : l.length + (enc n).length ≤ 70368744177674 := by have := enc_len hn1 hn2; omega
  have hu := Lib.hid (unsN_lt hn1 hn2)
  have HO := Lib.hid hown
  have HB := Lib.hid hb
  clear hown
  go_enter Try.func31, Try.ntmps31
  go_wp2_with (go_at_call 35; refine (unsigned_any _ _ hn1 hn2).mono ?_; rintro e w' ⟨rfl, rfl⟩)
  go_loopw [0, 5] (fun a u wr => ∃ (v' : Value) (l' : List Int) (k : Nat), a = v' ∧ u = .int .u64 (k : Int) ∧ k < 18446744073709551616 ∧ Hid (l' ++ encU k = l ++ enc n) ∧ Hid (OB base wr v' l') ∧ Hid (Below base w wr)) (fun _ u _ => (intOf u).toNat)
  case atStart => exact ⟨v, l, _, rfl, rfl, hu.out, Lib.hid rfl, HO, Lib.hid (Below.refl _ _)⟩
  case round =>
    obtain ⟨v', l', k, rfl, rfl, hk, HE, HO', HW⟩ := hrel
    have hlen' : l'.length + (encU k).length ≤ 70368744177674 := by
      have := congrArg List.length HE.out
      simp only [List.length_append] at this
      omega
    have hpos := encU_pos k
    have hk3 : k / 128 ≤ 144115188075855871 := by omega
    have HK := Lib.hid hk
    clear hk
    have hbw : base ≤ wr.heap.size := Nat.le_trans hb HW.out.size
    by_cases hk2 : k < 128
    · have e1 : Hid (l' ++ [(k : Int)] = l ++ enc n) := Lib.hid (by rw [← encU_small hk2]; exact HE.out)
      clear hlen hu
      go_wp2_with (at_builtin; refine wpList_append_own_at _ rfl (.tmp 19) (.tmp 22) 22 rfl base 5 i0 (.int .u8 0) 1 1 Try.underlying22 hi hz0 hz1 hz2 rfl (by decide) _ l'.length _ rfl (HO'.out.alloc _) ⟨wr.heap.size, 0, none⟩ 1 1 [.int .u8 (k : Int)] rfl rfl (cell_one_new _ _ _) (by simp [Value.oneCell']) (by unfold maxLen; omega) (by omega) (by simp; omega) ?_; intro v2 w1 hown1 hgrow1 _ _)
      go_ret
      refine ⟨_, rfl, by rw [← e1.out]; exact ob_snoc hown1, ?_⟩
      exact Below.grown (HW.out.alloc hbw _) hgrow1 (by simp; omega) (fun j hj => (HO'.out.lt _ hj).1)
    · have e0 : ((k % 128 + 128 : Nat) : Int) = (k : Int) % 128 + 128 := by omega
      have e1 : Hid ((l' ++ [(k : Int) % 128 + 128]) ++ encU (k / 128) = l ++ enc n) := Lib.hid (by rw [List.append_assoc, List.singleton_append, ← e0, ← encU_big (by omega)]; exact HE.out)
      have HK2 : Hid (k / 128 < 18446744073709551616) := Lib.hid (by have := HK.out; omega)
      clear e0
      clear hlen hu
      go_wp2_with (at_builtin; refine wpList_append_own_at _ rfl (.tmp 10) (.tmp 15) 22 rfl base 5 i0 (.int .u8 0) 1 1 Try.underlying22 hi hz0 hz1 hz2 rfl (by decide) _ l'.length _ rfl (HO'.out.alloc _) ⟨wr.heap.size, 0, none⟩ 1 1 [.int .u8 (k % 128 + 128 : Int)] rfl rfl (cell_one_new _ _ _) (by simp [Value.oneCell']) (by unfold maxLen; omega) (by omega) (by simp; omega) ?_; intro v2 w1 hown1 hgrow1 _ _)
      have HW1 : Hid (Below base w w1) := Lib.hid (Below.grown (HW.out.alloc hbw _) hgrow1 (by simp; omega) (fun j hj => (HO'.out.lt _ hj).1))
      have HO1 : Hid (OB base w1 v2 (l' ++ [(k : Int) % 128 + 128])) := Lib.hid (ob_snoc hown1)
      clear hown1 hgrow1
      go_roundw
      case rel => exact ⟨_, _, k / 128, rfl, by go_num, HK2.out, e1, HO1, HW1⟩
      case measure => simp [intOf]; omega
end Go.Proofs.Ythakidnbgmpcfaa
