/- append of what a slice reads as onto an empty row of the call's own: its run, in a region that draws its order. -/
import Derived.Test.YtjgifbcjokeigaaClone
namespace Go.Proofs.Ytjgifbcjokeigaa
open Go.ChangeShapes Go.WideShapes Go.ChangeAt Go.RowKit

theorem run_append_owned_nil {w : World} (base : Nat) (t ty e : TypeId) (i : TypeInfo) (size : Nat) (ht : Try.prog.underlying t = some (.slice e)) (hi : Try.prog.info? e = some i)
    (v : Value) (n : Nat) (xs : List Value) (hown : w.ownsRow base e size v n xs) (c : Nat) :
    (Builtin.append_ #[t, t] ty #[v, .slice none 0 c]).run Try.prog w = .ok v w := by
  rcases hown.2 with ⟨rfl, rfl⟩ | ⟨g, cap, cur, rfl, _, _, hnc, _⟩
  · simp [Builtin.append_, run_underlying ht, sizeOf, typeInfo, hi, Builtin.lenOf, Builtin.firstCells]
  · simp [Builtin.append_, run_underlying ht, sizeOf, typeInfo, hi, Builtin.lenOf, Builtin.firstCells, hnc, storeCells]

/-- A row that append leaves: where it lies. -/
structure RowAt (k : IntKind) (w : World) (H z : Nat) (A : Option Addr) (c : Nat) (l : List Int) (w' : World) : Prop where
  le : l.length ≤ c
  max : c ≤ maxLen
  la : LA k w' A l
  at_ : ∀ a, A = some a → (a.block = H ∨ z ≤ a.block) ∧ a.block < w'.heap.size
  grown : w.grownBy w' (some H)

set_option maxRecDepth 20000 in
theorem run_append_la {w : World} {k : IntKind} {ts te : TypeId} {i0 : TypeInfo} (ht : Try.prog.underlying ts = some (.slice te)) (hi : Try.prog.info? te = some i0) (hz0 : i0.zero = some (.int k 0)) (hz1 : i0.size = 1) (hz2 : i0.bytes = 8)
    (H : Nat) (hH : w.heap[H]? = some (.cells #[] te)) (A : Option Addr) (m c : Nat) (l : List Int) (hm : m = l.length) (hA : LA k w A l) (hl : l.length ≤ 1000000) :
    ∃ A' c' w', (Builtin.append_ #[ts, ts] ts #[.slice (some ⟨H, 0, none⟩) 0 0, .slice A m c]).run Try.prog w = .ok (.slice A' m c') w' ∧ RowAt k w H w.heap.size A' c' l w' := by
  subst hm
  have hlt := (Array.getElem?_eq_some_iff.1 hH).1
  have hown : w.ownsRow H te 1 (.slice (some ⟨H, 0, none⟩) 0 0) 0 [] := ⟨rfl, .inr ⟨H, 0, #[], rfl, Nat.le_refl _, hH, Nat.le_refl _, Nat.zero_le _, rfl, rfl⟩⟩
  cases A with
  | none =>
    obtain rfl := la_none hA
    exact ⟨_, _, w, run_append_owned_nil (w := w) H ts ts te i0 1 ht hi _ 0 _ hown c, Nat.zero_le _, Nat.zero_le _, fun h => absurd h (by simp), fun a e => by cases e; exact ⟨.inl rfl, hlt⟩, ⟨rfl, rfl, rfl, Nat.le_refl _, fun _ _ _ => rfl⟩⟩
  | some ad =>
    obtain ⟨v', w', hr, h2, h3, _, h5⟩ := run_append_own_at (P := Try.prog) w H ts ts te i0 (.int k 0) 1 8 ht hi hz0 hz1 hz2 rfl (by decide) _ 0 [] hown ad l.length c (l.map (Value.int k)) (by simp) (fun j u hu => by
      rw [List.getElem?_map] at hu
      cases e : l[j]? with
      | none => rw [e] at hu; cases hu
      | some y =>
        rw [e] at hu
        injection hu with hu
        subst hu
        have hj : j < l.length := (List.getElem?_eq_some_iff.1 e).1
        obtain ⟨b, o2, e2, _, hc⟩ := hA (by omega)
        injection e2 with e2
        subst e2
        rw [add_plain, hc j hj]
        simp [List.getD, e]) (fun u hu => by
      obtain ⟨y, _, rfl⟩ := List.mem_map.1 hu
      simp [Value.oneCell']) (by unfold maxLen; omega) (by omega) (by omega)
    rw [Nat.zero_add, List.nil_append] at h2
    have hlt2 := h2.lt
    obtain ⟨A', c', rfl, g1, g2, g3⟩ := la_of_own h2
    refine ⟨A', c', w', hr, g1, g2, g3, fun a e => ⟨?_, (hlt2 a.block (by rw [e]; rfl)).2⟩, h3⟩
    subst e
    rcases h5 with h5 | h5
    · exact .inl (Option.some.inj h5)
    · exact .inr (by rw [Option.some.inj h5]; exact Nat.le_refl _)
/-- That append, at a step of a region that draws its order. -/
theorem step_append_la {w : World} {ops : Array Oper} {o : Oper} {a : Act} {K : Act → World → Prop} {Q : Exit → Act → World → Prop} {E : Prop} {k : IntKind} {ts te : TypeId} (he : (Try.prog.info? te).map (fun i => (i.zero, i.size, i.bytes)) = some (some (.int k 0), 1, 8)) (ht : Try.prog.underlying ts = some (.slice te))
    (hgd : o.guard = none) (s x : Operand) (ho : o.op = .call { callee := .builtin .append, args := #[s, x], argTypes := #[ts, ts] }) (hty : o.type = ts)
    (H : Nat) (hs : a.eval s = .slice (some ⟨H, 0, none⟩) 0 0) (hH : w.heap[H]? = some (.cells #[] te)) (A : Option Addr) (m c : Nat) (hx : a.eval x = .slice A m c) (l : List Int) (hm : m = l.length) (hA : LA k w A l) (hl : l.length ≤ 1000000)
    (h : ∀ A' c' w', RowAt k w H w.heap.size A' c' l w' → K (a.put o.dst (.slice A' m c')) w') :
    if Region.wanted o (yielded ops a.tmps) = true then Oper.wp Try.prog o a w K Q else E := by
  obtain ⟨i0, hi, hz0, hz1, hz2⟩ := info_parts he
  obtain ⟨A', c', w', hr, hR⟩ := run_append_la ht hi hz0 hz1 hz2 H hH A m c l hm hA hl
  have hw : Region.wanted o (yielded ops a.tmps) = true := by simp [Region.wanted, hgd]
  rw [if_pos hw]
  unfold Oper.wp execOp
  simp only [ho, resolve, invoke, builtin, Sem.run_bind, Sem.run_pure, Result.andThen_ok, List.map_toArray, List.map_cons, List.map_nil, hs, hx, hty, hr]
  exact h A' c' w' hR
end Go.Proofs.Ytjgifbcjokeigaa
