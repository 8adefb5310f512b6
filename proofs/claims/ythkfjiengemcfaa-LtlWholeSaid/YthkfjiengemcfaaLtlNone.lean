/- Slices of what takes no room: append of one more. -/
import Derived.Test.YthkfjiengemcfaaLtlLeft
import Derived.Deep.RegionHeld3
import Derived.Laws.Append
namespace Go.Proofs.Ythkfjiengemcfaa.lt.wn
open Go.ChangeShapes Go.WideShapes Go.ChangeAt Go.RowKit

theorem info : (Try.prog.info? 55).map (fun i => (i.zero, i.size, i.bytes)) = some (some (.agg #[]), 0, 0) := by kernel_rfl
theorem zero_cells (n : Nat) : Builtin.zeroCells #[] n = #[] := by simp [Builtin.zeroCells]
theorem append_room (w : World) (a b : Addr) (n c d : Nat) (h : n + 1 ≤ c) :
    (Builtin.append_ #[58, 58] 58 #[.slice (some a) n c, .slice (some b) 1 d]).run Try.prog w = .ok (.slice (some a) (n + 1) c) w := by
  obtain ⟨i0, hi, hz0, hz1, hz2⟩ := info_parts info
  have hf := run_firstCells_some (P := Try.prog) w i0.size 1 b 1 d [] (by simp [hz1]) (by simp)
  rw [hz1] at hf
  simp [Builtin.append_, run_underlying Try.underlying58, sizeOf, typeInfo, zeroValue, hi, hz0, hz1, Builtin.lenOf, h, hf, storeCells]
/-- append of one more. -/
theorem run_append (w : World) (A : Option Addr) (b : Addr) (n c d : Nat) (hn : n ≤ c) (hA : A = none → c = 0) (hl : n ≤ 1000) :
    ∃ A' c' w', (Builtin.append_ #[58, 58] 58 #[.slice A n c, .slice (some b) 1 d]).run Try.prog w = .ok (.slice (some A') (n + 1) c') w' ∧ n + 1 ≤ c' ∧ Below w.heap.size w w' := by
  obtain ⟨i0, hi, hz0, hz1, hz2⟩ := info_parts info
  rcases A with _ | a
  · have hc := hA rfl
    subst hc
    obtain rfl : n = 0 := by omega
    have h := run_append_nil (P := Try.prog) (w := w) 58 58 55 i0 (.agg #[]) Try.underlying58 hi hz0 b 1 d [] (by simp [hz1]) (by simp) (by decide) (by decide) (by rw [hz2]; decide)
    exact ⟨_, _, _, h, grownCap_ge _ _ _ _, (Below.refl _ _).drew.alloc (Nat.le_refl _) _⟩
  · by_cases hc : n + 1 ≤ c
    · exact ⟨a, c, w, append_room w a b n c d hc, hc, Below.refl _ _⟩
    · have h := run_append_grow (P := Try.prog) (w := w) 58 58 55 i0 (.agg #[]) Try.underlying58 hi hz0 a n c [] (by simp [hz1]) (by simp) b 1 d [] (by simp [hz1]) (by simp) (by omega) (by omega) (by rw [hz2]; simp)
      exact ⟨_, _, _, h, grownCap_ge _ _ _ _, (Below.refl _ _).drew.alloc (Nat.le_refl _) _⟩
/-- append of one more, at a step of a region that draws its order. -/
theorem step_append {w : World} {ops : Array Oper} {o : Oper} {a : Act} {K : Act → World → Prop} {Q : Exit → Act → World → Prop} {E : Prop} (hgd : o.guard = none) (s x : Operand)
    (ho : o.op = .call { callee := .builtin .append, args := #[s, x], argTypes := #[58, 58] }) (hty : o.type = 58) (A : Option Addr) (b : Addr) (n c d : Nat) (hs : a.eval s = .slice A n c) (hx : a.eval x = .slice (some b) 1 d)
    (hn : n ≤ c) (hA : A = none → c = 0) (hl : n ≤ 1000) (h : ∀ A' c' w', n + 1 ≤ c' → Below w.heap.size w w' → K (a.put o.dst (.slice (some A') (n + 1) c')) w') :
    if Region.wanted o (yielded ops a.tmps) = true then Oper.wp Try.prog o a w K Q else E := by
  obtain ⟨A', c', w', hr, h1, h2⟩ := run_append w A b n c d hn hA hl
  exact sr.step_append_at hgd s x ho hty hs hx hr (h A' c' w' h1 h2)
end Go.Proofs.Ythkfjiengemcfaa.lt.wn
