/- The document's reader: a value of three parts. -/
import Derived.Test.YthakidnbgmpcfaaReader
import Derived.Laws.ResultCell
import Derived.Laws.Rows
namespace Go.Proofs.Ythakidnbgmpcfaa
open Go.ChangeShapes Go.WideShapes Go.ChangeAt Go.RowKit

theorem results_cell {fn : Func} {p : Tmp} {ty : TypeId} (h : fn.results = #[.cell p ty]) (tmps : Array Value) (P : Program) (w : World) :
    (results fn tmps).run P w = ((asAddr (tmps.getD p undef)).run P w).andThen fun a w₁ => (loadVar ty a).run P w₁ := by
  simp only [results, h]
  simp [Sem.run_bind, Result.andThen]

/-- A value of the document's reader. -/
abbrev rrV (A : Option Addr) (n c p : Nat) (e : Int) : Value := .agg #[.slice A n c, .int .i64 p, .int .i64 e]

theorem dleft_any (A : Option Addr) (n c p : Nat) (e : Int) (w : World) (hp : p ≤ n) (hn : n ≤ 1048576) :
    Calls Try.prog 16 #[rrV A n c p e] w fun en w' => en = .returned (.int .i64 ((n : Int) - p)) ∧ Below w.heap.size w w' := by
  unfold rrV
  go_enter Try.func16, Try.ntmps16
  go_wp2
  go_ret
  exact ⟨rfl, (Below.refl _ _).alloc (Nat.le_refl _) _⟩

theorem dwrong_any (A : Option Addr) (n c p : Nat) (e f : Int) (w : World) :
    Calls Try.prog 21 #[rrV A n c p e, .int .i64 f] w fun en w' => en = .returned (rrV A n c p f) ∧ Below w.heap.size w w' := by
  unfold rrV
  go_enter Try.func21, Try.ntmps21
  go_wp2
  (try simp only [Exit.inBlock, Exit.then])
  refine bodyPost_ret (v := .agg #[.slice A n c, .int .i64 p, .int .i64 f]) ?_ rfl ⟨rfl, ?_⟩
  · rw [results_cell rfl]; go_simp
  · (repeat' (first | exact Below.refl _ _ | refine Below.drew ?_ | refine Below.setCell ?_ (by simp <;> omega) _ | refine Below.alloc ?_ (by simp <;> omega) _))

theorem dfrom_any (A : Option Addr) (n c : Nat) (w : World) :
    Calls Try.prog 6 #[.slice A n c] w fun en w' => en = .returned (rrV A n c 0 0) ∧ Below w.heap.size w w' := by
  unfold rrV
  go_enter Try.func6, Try.ntmps6
  go_wp2
  (try simp only [Exit.inBlock, Exit.then])
  refine bodyPost_ret (v := .agg #[.slice A n c, .int .i64 0, .int .i64 0]) ?_ rfl ⟨rfl, ?_⟩
  · rw [results_cell rfl]; go_simp
  · (repeat' (first | exact Below.refl _ _ | refine Below.drew ?_ | refine Below.setCell ?_ (by simp <;> omega) _ | refine Below.alloc ?_ (by simp <;> omega) _))


theorem dsigned_any (u : Nat) (w : World) (h : u < 18446744073709551616) :
    Calls Try.prog 22 #[.int .u64 (u : Int)] w fun e w' => e = .returned (.int .i64 (sgn u)) ∧ w = w' := by
  have h2 : u / 2 ≤ 9223372036854775807 := by omega
  clear h
  by_cases h1 : u % 2 = 1
  · have e : Hid (sgn u = -((u / 2 : Nat) : Int) - 1) := Lib.hid (if_pos h1)
    have h3 : ((u : Int) % 2 == 0) = false := by simp; omega
    have h4 : (u : Int) / 2 ≤ 9223372036854775807 := by omega
    clear h1
    go_enter Try.func22, Try.ntmps22
    go_wp2
    go_ret
    exact ⟨ret_int (by rw [e.out]; omega), rfl⟩
  · have e : Hid (sgn u = ((u / 2 : Nat) : Int)) := Lib.hid (if_neg h1)
    have h3 : ((u : Int) % 2 == 0) = true := by simp; omega
    have h4 : (u : Int) / 2 ≤ 9223372036854775807 := by omega
    clear h1
    go_enter Try.func22, Try.ntmps22
    go_wp2
    go_ret
    exact ⟨ret_int (by rw [e.out]; omega), rfl⟩

/-- The value of what stands behind place t. -/
theorem dval_drop (l : List Int) (t : Nat) (h : t < l.length) : dval (l.drop t) = (l.getD t 0 % 128).toNat + 128 * dval (l.drop (t + 1)) := by
  rw [List.drop_eq_getElem_cons h]
  simp [dval, List.getD, h]
theorem dval_drop_le (l : List Int) (t : Nat) : dval (l.drop t) ≤ dval l := by
  have e := dval_append (l.take t) (l.drop t)
  rw [List.take_append_drop] at e
  have hp : 0 < 128 ^ (l.take t).length := Nat.pow_pos (by decide)
  have := Nat.le_mul_of_pos_left (dval (l.drop t)) hp
  omega
theorem dval_ten (l : List Int) (n : Nat) (hn : n < l.length) (h9 : n < 9 ∨ n = 9 ∧ (l.getD n 0 % 128).toNat ≤ 1) : dval (l.take (n + 1)) < 18446744073709551616 := by
  rcases h9 with h9 | ⟨rfl, h9⟩
  · have h1 := dval_lt (l.take (n + 1))
    have h2 : (l.take (n + 1)).length = n + 1 := by simp; omega
    rw [h2] at h1
    have h3 : (128 : Nat) ^ (n + 1) ≤ 128 ^ 9 := Nat.pow_le_pow_right (by decide) (by omega)
    have h4 : (128 : Nat) ^ 9 < 18446744073709551616 := by decide
    omega
  · have h1 := dval_lt (l.take 9)
    have h2 : (l.take 9).length = 9 := by simp; omega
    rw [h2] at h1
    rw [dval_snoc l 9 hn]
    have h4 : (128 : Nat) ^ 9 = 9223372036854775808 := by decide
    rw [h4] at h1 ⊢
    omega
theorem getD_take (l : List Int) (n t : Nat) (h : t < n) : (l.take n).getD t 0 = l.getD t 0 := by simp [List.getD, h]

/-- What the document's reading of a number answers. -/
def gotN (l : List Int) (p : Nat) (e : Int) : Got Int := if e = 0 then readN (l.drop p) else ⟨e, 0, 0⟩
def DNum (A : Option Addr) (c : Nat) (l : List Int) (p : Nat) (G : Got Int) (W : World) (en : Ending) (w' : World) : Prop :=
  en = .returned (.tuple #[rrV A l.length c (p + G.k) G.f, .int .i64 G.v]) ∧ Below W.heap.size W w'

theorem dnum_fault {A : Option Addr} {c : Nat} {l : List Int} {p : Nat} {e : Int} (w : World) (he : e ≠ 0) :
    Calls Try.prog 7 #[rrV A l.length c p e] w (DNum A c l p ⟨e, 0, 0⟩ w) := by
  unfold rrV
  go_enter Try.func7, Try.ntmps7
  go_wp2
  (try simp only [Exit.inBlock, Exit.then])
  refine bodyPost_ret (v := .tuple #[.agg #[.slice A l.length c, .int .i64 p, .int .i64 e], .int .i64 0]) ?_ rfl ⟨rfl, ?_⟩
  · rw [results_cell_tmp rfl]; go_simp
  · (repeat' (first | exact Below.refl _ _ | refine Below.drew ?_ | refine Below.setCell ?_ (by simp <;> omega) _ | refine Below.alloc ?_ (by simp <;> omega) _))
end Go.Proofs.Ythakidnbgmpcfaa
