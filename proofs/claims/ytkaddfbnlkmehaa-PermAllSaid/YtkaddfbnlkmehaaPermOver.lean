/- Loops over iterators inside loops: their marks; what a round of such a loop leaves. -/
import Derived.Test.YtkaddfbnlkmehaaPermLeft
namespace Go.Proofs.Ytkaddfbnlkmehaa
open Go.ChangeShapes Go.WideShapes Go.ChangeAt Go.RowKit Go.Shelf

/-- A loop's mark among the deferred calls. -/
def mark (D : Nat) : Deferred := { target := .collected D, args := #[] }
/-- A function that returns by loops' marks alone. -/
theorem leaves_marks {n : Nat} {P : Program} {fn : Func} {tmps : Array Value} {R : Ending → World → Prop} {v : Value} (Rv : World → Prop) (hres : ∀ V, Rv V → (results fn tmps).run P V = .ok v V) (hR : ∀ V, Rv V → R (.returned v) V) :
    ∀ (Ds : List Nat) (V : World), Ds.Nodup → (∀ D ∈ Ds, V.heap[D]? = some (.deferred (some []))) → (∀ D ∈ Ds, ∀ V : World, V.heap[D]? = some (.deferred (some [])) → Rv V → Rv (V.putObj D (.deferred none))) → Rv V →
      LeavesInM Fence.wide n P fn tmps R (Ds.map mark) .returning V
  | [], V, _, _, _, h => ⟨v, hres V h, hR V h⟩
  | D :: Ds, V, hnd, hD, ht, h => by
    have h1 := hD D (by simp)
    rw [List.nodup_cons] at hnd
    refine ⟨by simp, .inl ⟨_, _, rfl, run_takeDeferred h1, ?_⟩⟩
    refine leaves_marks Rv hres hR Ds _ hnd.2 (fun E hE => ?_) (fun E hE => ht E (by simp [hE])) (ht D (by simp) V h1 h)
    rw [World.putObj_heap_other (fun e => hnd.1 (by rw [← e]; exact hE))]
    exact hD E (by simp [hE])

theorem cell_of_box_l {W : World} {B : Nat} {v : Value} {t : TypeId} (h : W.heap[B]? = some (.cells #[v] t (0, 0))) : W.cell? ⟨B, 0, none⟩ = some v ∧ W.frozen? ⟨B, 0, none⟩ = false := by
  constructor <;> simp [World.cell?, World.frozen?, h]
theorem cell_new_l (W : World) (v : Value) (t : TypeId) : (W.alloc (.cells #[v] t)).cell? ⟨W.heap.size, 0, none⟩ = some v ∧ (W.alloc (.cells #[v] t)).frozen? ⟨W.heap.size, 0, none⟩ = false :=
  cell_of_box_l (World.alloc_heap_new W _)

theorem box_set {W : World} {B : Nat} {v : Value} {t : TypeId} (h : W.heap[B]? = some (.cells #[v] t (0, 0))) (v' : Value) : (W.setCell ⟨B, 0, none⟩ v').heap[B]? = some (.cells #[v'] t (0, 0)) := by
  simp [World.setCell, Array.getElem?_modify, h]

/-- Only the blocks T turned. -/
structure Turn (T : Nat → Prop) (w w' : World) : Prop where
  os : w'.os = w.os
  tape : w'.tape = w.tape
  output : w'.output = w.output
  size : w.heap.size ≤ w'.heap.size
  block : ∀ k, k < w.heap.size → ¬ T k → w'.heap[k]? = w.heap[k]?
theorem Turn.refl (T : Nat → Prop) (w : World) : Turn T w w := ⟨rfl, rfl, rfl, Nat.le_refl _, fun _ _ _ => rfl⟩
theorem Turn.own (T : Nat → Prop) (w : World) {β : Type} : OwnFrom w.heap.size (fun (_ : β) W => Turn T w W) := fun _ _ _ _ hs hg hr =>
  ⟨hg.os.trans hs.os, hg.tape.trans hs.tape, hg.output.trans hs.output, Nat.le_trans hs.size hg.size, fun k hk hT => (hg.block k (Nat.lt_of_lt_of_le hk hs.size) (fun e => by have := (hr k e.symm).1; omega)).trans (hs.block k hk hT)⟩
theorem Turn.below {T : Nat → Prop} {w w' : World} {B : Nat} (h : Turn T w w') (hT : ∀ k, T k → B ≤ k) (hB : B ≤ w.heap.size) : Below B w w' :=
  ⟨h.os, h.tape, h.output, h.size, fun k hk => h.block k (by omega) (fun hk2 => by have := hT k hk2; omega)⟩
theorem Turn.set {T : Nat → Prop} {w w' : World} (h : Turn T w w') (a : Addr) (v : Value) (ha : T a.block) : Turn T w (w'.setCell a v) :=
  ⟨h.os, h.tape, h.output, by simp; exact h.size, fun k hk hT => (Below.heap_setCell w' a v k (fun e => hT (by rw [e]; exact ha))).trans (h.block k hk hT)⟩
theorem Turn.drewN {T : Nat → Prop} {w w' : World} (h : Turn T w w') (j : Nat) : Turn T w (w'.drewN j) := ⟨h.os, h.tape, h.output, h.size, h.block⟩
end Go.Proofs.Ytkaddfbnlkmehaa
