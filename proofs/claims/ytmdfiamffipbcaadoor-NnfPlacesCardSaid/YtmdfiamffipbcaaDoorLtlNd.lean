/- Rows of nodes of the call's own. -/
import Derived.Test.YtmdfiamffipbcaaDoorLtlLeft
namespace Go.Proofs.YtmdfiamffipbcaaDoor.lt
open Go.ChangeShapes Go.WideShapes Go.ChangeAt Go.RowKit sr

def encN (x : Int × Int) : List Value := [.int .i64 x.1, .int .i64 x.2]
theorem encN_len (x : Int × Int) : (encN x).length = 2 := rfl
theorem encN_one (x : Int × Int) : ∀ u ∈ encN x, u.oneCell' = true := fun u hu => by
  simp [encN] at hu
  rcases hu with rfl | rfl <;> rfl
theorem infoN : (Tryd.prog.info? 38).map (fun i => (i.zero, i.size, i.bytes)) = some (some (.agg #[.int .i64 0, .int .i64 0]), 2, 16) := by kernel_rfl
theorem rs_pa {w : World} {A : Option Addr} {l : List (Int × Int)} (h : RS encN 2 w A l) : PA w A l := fun hn => by
  obtain ⟨b, off, e, hb, hc⟩ := h hn
  exact ⟨b, off, e, hb, fun i hi => ⟨hc i hi 0 (by decide), hc i hi 1 (by decide)⟩⟩
theorem pa_rs {w : World} {A : Option Addr} {l : List (Int × Int)} (h : PA w A l) : RS encN 2 w A l := fun hn => by
  obtain ⟨b, off, e, hb, hc⟩ := h hn
  refine ⟨b, off, e, hb, fun i hi j hj => ?_⟩
  obtain ⟨g1, g2⟩ := hc i hi
  rcases j with _ | _ | j
  · rw [Nat.add_zero, g1]; rfl
  · rw [g2]; rfl
  · omega
abbrev ON (base : Nat) (w : World) (v : Value) (l : List (Int × Int)) : Prop := OR encN 2 base 38 w v l
theorem on_empty (w : World) (base : Nat) (hb : base ≤ w.heap.size) : ON base (w.alloc (.cells #[] 38)) (.slice (some ⟨w.heap.size, 0, none⟩) 0 0) [] :=
  ⟨by simp [flatR], .inr ⟨w.heap.size, 0, #[], rfl, hb, World.alloc_heap_new _ _, Nat.le_refl _, Nat.zero_le _, by simp, by simp [flatR]⟩⟩
/-- append of all of a slice onto a row of the call's own, in a region that keeps its order. -/
theorem list_append_nodes {w : World} {ops : Array Oper} {rest : List Oper} {o : Oper} {a : Act} {Q : Exit → Act → World → Prop} (base : Nat) (hgd : o.guard = none) (s x : Operand)
    (ho : o.op = .call { callee := .builtin .append, args := #[s, x], argTypes := #[22, 22] }) (hty : o.type = 22) (v : Value) (l : List (Int × Int)) (hs : a.eval s = v) (hown : ON base w v l) (A : Option Addr) (m c : Nat) (l2 : List (Int × Int)) (hx : a.eval x = .slice A m c) (hm : m = l2.length) (hpos : 0 < m) (hA : PA w A l2) (hlen : l.length + m ≤ 100000) (hbase : base ≤ w.heap.size)
    (h : ∀ v' w', ON base w' v' (l ++ l2) → Below base w w' → wpList Tryd.prog ops Q rest (a.put o.dst v') w') :
    wpList Tryd.prog ops Q (o :: rest) a w := by
  obtain ⟨v', w', hr, h2, h3⟩ := run_append_rs encN_len encN_one Tryd.underlying22 infoN rfl (by decide) (by decide) (w := w) base v l hown A m c l2 hm hpos (pa_rs hA) (by omega) hbase
  exact Lib.wpList_append_run w hgd s x 22 22 ho v _ hs hx _ w' (by rw [hty]; exact hr) (h v' w' h2 (Below.grown (Below.refl _ _) h3 hbase (fun k hk => (World.ownsRow.lt hown k hk).1)))
theorem on_form {base : Nat} {w : World} {v : Value} {l : List (Int × Int)} (h : ON base w v l) : ∃ A c, v = .slice A l.length c ∧ PA w A l ∧ l.length ≤ c := by
  obtain ⟨A, c, e, hr⟩ := OR.rs encN_len h
  refine ⟨A, c, e, rs_pa hr, ?_⟩
  rcases h.2 with ⟨e2, h0⟩ | ⟨g, cap, cur, e2, _, _, h3, _⟩
  · omega
  · rw [e] at e2
    injection e2 with _ _ e3
    omega
end Go.Proofs.YtmdfiamffipbcaaDoor.lt
