/- The program's own: the parts of a node, by where parts begin. -/
import Derived.Test.YtophajljjnjcdaaWdProw
import Derived.Test.YtophajljjnjcdaaWdStk
namespace Go.Proofs.Ytophajljjnjcdaa.wd
open Go.ChangeShapes Go.WideShapes Go.ChangeAt Go.RowKit Go.Deep sr lt nf

/-- What own hands back: n numbers. -/
def ListP (w : World) (n : Nat) (L : List Int) (e : Ending) (w' : World) : Prop := n = L.length ∧ ∃ A c, e = .returned (.slice A n c) ∧ IA w' A L ∧ Below w.heap.size w w' ∧ ∀ a, A = some a → w.heap.size ≤ a.block
theorem own_none (B : List Int) (Bb : Option Addr) (bl bd i : Nat) (w : World) (hB : IA w Bb B) (hb : bl = B.length) (hi : i < bl) (h1 : B.getD i 0 = (i : Int)) :
    Calls Try.prog 47 #[.slice Bb bl bd, .int .i64 i] w (ListP w 0 []) := by
  obtain ⟨g, o, rfl, hg, hc⟩ := hB (by omega)
  have c1 := hc i (by omega)
  rw [h1] at c1
  clear hB hc hb h1
  go_enter Try.func47, Try.ntmps47
  go_wp2
  go_ret
  exact ⟨rfl, none, 0, rfl, IA.nil _ _, Below.refl _ _, fun _ h => by cases h⟩
set_option maxRecDepth 20000 in
theorem own_one (B : List Int) (Bb : Option Addr) (bl bd j v : Nat) (w : World) (hB : IA w Bb B) (hb : bl = B.length) (hi : j + 1 < bl) (hbl : bl ≤ 1000) (hv : v ≤ j) (h1 : B.getD (j + 1) 0 = (v : Int)) (h2 : B.getD j 0 = (v : Int)) :
    Calls Try.prog 47 #[.slice Bb bl bd, .int .i64 ((j + 1 : Nat) : Int)] w (ListP w 1 [(j : Int)]) := by
  obtain ⟨g, o, rfl, hg, hc⟩ := hB (by omega)
  have c1 := hc (j + 1) (by omega)
  have c2 := hc j (by omega)
  rw [h1] at c1
  rw [h2] at c2
  obtain ⟨i, HI, hij⟩ : ∃ i : Nat, Hid (i = j + 1) ∧ (i : Int) - 1 = (j : Int) := ⟨j + 1, Lib.hid rfl, by omega⟩
  rw [← HI.out] at c1 hi ⊢
  have hiv : ¬ (v : Int) = (i : Int) := by have := HI.out; omega
  have hil : (i : Int) < bl := by omega
  have hjl : j < bl := by have := HI.out; omega
  have HL : Hid (IA (w.drew.alloc (.cells #[.int .i64 j] 3)) (some ⟨w.heap.size, 0, none⟩) [(j : Int)]) := Lib.hid (ia_lit w.drew _ _ _ rfl)
  clear hB hc hb h1 h2
  go_enter Try.func47, Try.ntmps47
  go_wp2
  go_quiet (fail)
  generalize hw1 : w.drewN _ = w1
  have HW1 : Hid (Below w.heap.size w w1) := Lib.hid (by rw [← hw1]; exact below_drewN (Below.refl _ _) _)
  clear hw1
  have HL : Hid (IA (w1.alloc (.cells #[.int .i64 j] 3)) (some ⟨w1.heap.size, 0, none⟩) [(j : Int)]) := Lib.hid (ia_lit w1 _ _ _ rfl)
  have HB1 : Hid (Below w.heap.size w (w1.alloc (.cells #[.int .i64 j] 3))) := Lib.hid (HW1.out.alloc HW1.out.size _)
  go_wp2
  go_ret
  exact ⟨rfl, _, _, rfl, HL.out, HB1.out, fun a ha => by cases ha; exact HW1.out.size⟩
set_option maxRecDepth 20000 in
theorem own_two (B : List Int) (Bb : Option Addr) (bl bd j q v : Nat) (w : World) (hB : IA w Bb B) (hb : bl = B.length) (hi : j + 1 < bl) (hbl : bl ≤ 1000) (hq : q < j) (hv : v ≤ q) (h1 : B.getD (j + 1) 0 = (v : Int)) (h2 : B.getD j 0 = ((q + 1 : Nat) : Int)) :
    Calls Try.prog 47 #[.slice Bb bl bd, .int .i64 ((j + 1 : Nat) : Int)] w (ListP w 2 [(j : Int), (q : Int)]) := by
  obtain ⟨g, o, rfl, hg, hc⟩ := hB (by omega)
  have c1 := hc (j + 1) (by omega)
  have c2 := hc j (by omega)
  rw [h1] at c1
  rw [h2] at c2
  obtain ⟨i, HI, hij⟩ : ∃ i : Nat, Hid (i = j + 1) ∧ (i : Int) - 1 = (j : Int) := ⟨j + 1, Lib.hid rfl, by omega⟩
  obtain ⟨r, HR, hrq⟩ : ∃ r : Nat, Hid (r = q + 1) ∧ (r : Int) - 1 = (q : Int) := ⟨q + 1, Lib.hid rfl, by omega⟩
  rw [← HI.out] at c1 hi ⊢
  rw [← HR.out] at c2
  have hiv : ¬ (v : Int) = (i : Int) := by have := HI.out; omega
  have hvr : ¬ (v : Int) = (r : Int) := by have := HR.out; omega
  have hjl : j < bl := by have := HI.out; omega
  have hr1 : r ≤ 1000 := by have := HR.out; omega
  clear hB hc hb h1 h2
  go_enter Try.func47, Try.ntmps47
  go_wp2
  go_quiet (fail)
  generalize hw1 : w.drewN _ = w1
  have HW1 : Hid (Below w.heap.size w w1) := Lib.hid (by rw [← hw1]; exact below_drewN (Below.refl _ _) _)
  have c3 : w1.cell? ⟨g, o + j, none⟩ = some (.int .i64 r) := by rw [← hw1]; exact c2
  clear hw1
  have HL : Hid (IA (w1.alloc (.cells #[.int .i64 j, .int .i64 q] 3)) (some ⟨w1.heap.size, 0, none⟩) [(j : Int), (q : Int)]) := Lib.hid (ia_lit w1 _ _ _ rfl)
  have HB1 : Hid (Below w.heap.size w (w1.alloc (.cells #[.int .i64 j, .int .i64 q] 3))) := Lib.hid (HW1.out.alloc HW1.out.size _)
  go_wp2
  go_ret
  exact ⟨rfl, _, _, rfl, HL.out, HB1.out, fun a ha => by cases ha; exact HW1.out.size⟩
end Go.Proofs.Ytophajljjnjcdaa.wd
