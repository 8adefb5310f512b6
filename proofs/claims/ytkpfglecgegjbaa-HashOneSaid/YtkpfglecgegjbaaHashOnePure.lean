/- Sums of bytes that differ in one byte differ: the pure part. -/
import Derived.Test.YtkpfglecgegjbaaHashCalls
namespace Go.Proofs.Ytkpfglecgegjbaa
open Go.ChangeShapes Go.WideShapes Go.ChangeAt Go.RowKit

theorem mul_inj_gen {M P Q k a b : Nat} (e : P * Q = k * M + 1) (ha : a < M) (hb : b < M) (h : a * P % M = b * P % M) : a = b := by
  have h1 : a * P * Q % M = b * P * Q % M := by rw [Nat.mul_mod, h, ← Nat.mul_mod]
  have h2 : ∀ c : Nat, c < M → c * P * Q % M = c := fun c hc => by
    have : c * P * Q = c + c * k * M := by rw [Nat.mul_assoc, e, Nat.mul_add, Nat.mul_one, Nat.mul_assoc, Nat.add_comm]
    rw [this, Nat.add_mul_mod_self_right, Nat.mod_eq_of_lt hc]
  rw [h2 a ha, h2 b hb] at h1
  exact h1
theorem mul_inj {a b : Nat} (ha : a < 18446744073709551616) (hb : b < 18446744073709551616) (h : a * 1099511628211 % 18446744073709551616 = b * 1099511628211 % 18446744073709551616) : a = b :=
  mul_inj_gen (Q := 14886173955864302971) (k := 887285111055) (by decide) ha hb h
theorem xor_cancel {a b c : Nat} (h : a ^^^ c = b ^^^ c) : a = b := by
  have := congrArg (· ^^^ c) h
  simpa [Nat.xor_assoc] using this
theorem xor_cancel' {a b c : Nat} (h : c ^^^ a = c ^^^ b) : a = b := xor_cancel (c := c) (by rw [Nat.xor_comm a, Nat.xor_comm b]; exact h)
theorem fur_eq {s x : Int} (hs : 0 ≤ s ∧ s < 18446744073709551616) (hx : 0 ≤ x ∧ x ≤ 255) : fur s x = (((s.toNat ^^^ x.toNat) * 1099511628211 % 18446744073709551616 : Nat) : Int) := by
  unfold fur
  rw [u64_xor s x hs.1 hs.2 hx.1 (by omega), IntKind.wrap_u64]
  omega
theorem xor_lt {s x : Int} (hs : 0 ≤ s ∧ s < 18446744073709551616) (hx : 0 ≤ x ∧ x ≤ 255) : s.toNat ^^^ x.toNat < 18446744073709551616 := Nat.xor_lt_two_pow (n := 64) (by omega) (by omega)
theorem fur_inj {s t x y : Int} (hs : 0 ≤ s ∧ s < 18446744073709551616) (ht : 0 ≤ t ∧ t < 18446744073709551616) (hx : 0 ≤ x ∧ x ≤ 255) (hy : 0 ≤ y ∧ y ≤ 255) (h : fur s x = fur t y) : s.toNat ^^^ x.toNat = t.toNat ^^^ y.toNat := by
  rw [fur_eq hs hx, fur_eq ht hy] at h
  exact mul_inj (xor_lt hs hx) (xor_lt ht hy) (Int.ofNat_inj.1 h)
theorem bsum_inj {l : List Int} (hu : U8 l) : ∀ {s t : Int}, (0 ≤ s ∧ s < 18446744073709551616) → (0 ≤ t ∧ t < 18446744073709551616) → bsum s l = bsum t l → s = t := by
  induction l with
  | nil => intro s t _ _ h; exact h
  | cons x l ih =>
    intro s t hs ht h
    have hx := hu x (by simp)
    have h1 := ih (fun z hz => hu z (by simp [hz])) (fur_fits s x) (fur_fits t x) h
    have h2 := fur_inj hs ht hx hx h1
    have h3 : s.toNat = t.toNat := xor_cancel h2
    omega
theorem bsum_ne {a b : List Int} {x y : Int} (hb : U8 b) (hx : 0 ≤ x ∧ x ≤ 255) (hy : 0 ≤ y ∧ y ≤ 255) (h : x ≠ y) : bsum none64 (a ++ x :: b) ≠ bsum none64 (a ++ y :: b) := by
  rw [bsum_append, bsum_append]
  have hs := bsum_fits none64 a (by unfold none64; omega)
  generalize bsum none64 a = s at hs
  intro h1
  have h2 : fur s x = fur s y := bsum_inj hb (fur_fits s x) (fur_fits s y) h1
  have h3 := fur_inj hs hs hx hy h2
  have h4 : x.toNat = y.toNat := xor_cancel' h3
  omega
theorem split_set {l : List Int} {i : Nat} (hi : i < l.length) (y : Int) : ∃ a b, l = a ++ l.getD i 0 :: b ∧ l.set i y = a ++ y :: b := by
  refine ⟨l.take i, l.drop (i + 1), ?_, ?_⟩
  · have : l.getD i 0 = l[i] := by simp [List.getD, hi]
    rw [this]
    simp
  · rw [List.set_eq_take_append_cons_drop, if_pos hi]
theorem b8_small {x : Int} (hx : 0 ≤ x ∧ x ≤ 255) : b8 (IntKind.u64.wrap x) = [x, 0, 0, 0, 0, 0, 0, 0] := by
  have e : IntKind.u64.wrap x = x := by rw [IntKind.wrap_u64]; omega
  rw [e]
  unfold b8
  simp only [List.cons.injEq, and_true]
  omega
theorem sums_ne {l : List Int} (hu : U8 l) {i : Nat} (hi : i < l.length) {y : Int} (hy : 0 ≤ y ∧ y ≤ 255) (h : l.getD i 0 ≠ y) :
    bsum none64 l ≠ bsum none64 (l.set i y) ∧ bsum none64 (bAll l) ≠ bsum none64 (bAll (l.set i y)) := by
  obtain ⟨a, b, h1, h2⟩ := split_set hi y
  have hx := hu.at_ i
  generalize l.getD i 0 = x at h h1 hx
  rw [h2]
  subst h1
  have hb : U8 b := fun z hz => hu z (by simp [hz])
  refine ⟨bsum_ne hb hx hy h, ?_⟩
  have e : ∀ z : Int, 0 ≤ z ∧ z ≤ 255 → bAll (a ++ z :: b) = bAll a ++ z :: ([0, 0, 0, 0, 0, 0, 0] ++ bAll b) := fun z hz => by
    unfold bAll
    rw [List.flatMap_append, List.flatMap_cons, b8_small hz]
    simp
  rw [e x hx, e y hy]
  refine bsum_ne (fun z hz => ?_) hx hy h
  rcases List.mem_append.1 hz with hz | hz
  · simp at hz; omega
  · exact bAll_u8 b z hz
end Go.Proofs.Ytkpfglecgegjbaa
