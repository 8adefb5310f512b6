/- Loops over iterators: what stays, their marks. Nothing here speaks of the program. -/
import Derived.Test.YtmdfiamffipbcaaDoorIntRows
import Derived.RangeFuncNested
import Derived.RangeFuncBound
import Derived.RangeFuncCalls
import Derived.RangeFuncLeaves
import Derived.Shelf.Abstract
import Derived.Shelf.RegionOpen
import Derived.OwnWalkIn
import Derived.TacticsInMore
import Derived.LoopNIn
import Derived.LoopIn
namespace Go.Proofs.YtmdfiamffipbcaaDoor
open Go.ChangeShapes Go.WideShapes Go.ChangeAt Go.RowKit Go.Shelf

/-- The blocks K stay. -/
def KS (K : Nat → Prop) (W W' : World) : Prop := ∀ q, K q → W'.heap[q]? = W.heap[q]?
theorem KS.refl (K : Nat → Prop) (W : World) : KS K W W := fun _ _ => rfl
theorem KS.trans {K : Nat → Prop} {A B C : World} (h : KS K A B) (k : KS K B C) : KS K A C := fun q hq => (k q hq).trans (h q hq)
theorem KS.below {K : Nat → Prop} {B : Nat} {A C : World} (h : Below B A C) (hK : ∀ q, K q → q < B) : KS K A C := fun q hq => h.block q (hK q hq)
theorem KS.drewN {K : Nat → Prop} {A C : World} (j : Nat) (h : KS K (A.drewN j) C) : KS K A C := h
theorem KS.back {K : Nat → Prop} {w : World} (hK : ∀ q, K q → q < w.heap.size) (W : World) (l : Nat) (o o' : Obj) (hl : w.heap.size ≤ l) (_ : W.heap[l]? = some o) (_ : o.isCells = false) (_ : o.isWalk = false) : KS K W (W.putObj l o') :=
  fun q hq => World.putObj_heap_other (fun e => by have := hK q hq; omega)

/-- A loop's mark among the deferred calls. -/
def mark (D : Nat) : Deferred := { target := .collected D, args := #[] }
/-- A function that returns by loops' marks alone. -/
theorem leaves_marks {n : Nat} {P : Program} {fn : Func} {tmps : Array Value} {R : Ending → World → Prop} {v : Value} (Rv : World → Prop) (hres : ∀ V, Rv V → (results fn tmps).run P V = .ok v V) (hR : ∀ V, Rv V → R (.returned v) V) :
    ∀ (Ds : List Nat) (V : World), Ds.Nodup → (∀ D ∈ Ds, V.heap[D]? = some (.deferred (some []))) → (∀ D ∈ Ds, ∀ V : World, V.heap[D]? = some (.deferred (some [])) → Rv V → Rv (V.putObj D (.deferred none))) → Rv V →
      LeavesInM Fence.wide n P fn tmps R (Ds.map mark) .returning V
  | [], V, _, _, _, h => ⟨v, hres V h, hR V h⟩
  | D :: Ds, V, hnd, hD, ht, h => by
    have h1 := hD D (by simp)
    rw [List.nodup_cons] at hnd
    refine ⟨by simp, .inl ⟨_, _, rfl, run_takeDeferred h1, ?_⟩⟩
    refine leaves_marks Rv hres hR Ds _ hnd.2 (fun E hE => ?_) (fun E hE => ht E (by simp [hE])) (ht D (by simp) V h1 h)
    rw [World.putObj_heap_other (fun e => hnd.1 (by rw [← e]; exact hE))]
    exact hD E (by simp [hE])

theorem cell_of_box_l {W : World} {B : Nat} {v : Value} {t : TypeId} (h : W.heap[B]? = some (.cells #[v] t (0, 0))) : W.cell? ⟨B, 0, none⟩ = some v ∧ W.frozen? ⟨B, 0, none⟩ = false := by
  constructor <;> simp [World.cell?, World.frozen?, h]
theorem cell_new_l (W : World) (v : Value) (t : TypeId) : (W.alloc (.cells #[v] t)).cell? ⟨W.heap.size, 0, none⟩ = some v ∧ (W.alloc (.cells #[v] t)).frozen? ⟨W.heap.size, 0, none⟩ = false :=
  cell_of_box_l (World.alloc_heap_new W _)

theorem box_set {W : World} {B : Nat} {v : Value} {t : TypeId} (h : W.heap[B]? = some (.cells #[v] t (0, 0))) (v' : Value) : (W.setCell ⟨B, 0, none⟩ v').heap[B]? = some (.cells #[v'] t (0, 0)) := by
  simp [World.setCell, Array.getElem?_modify, h]

theorem Turn.own (T : Nat → Prop) (w : World) {β : Type} : OwnFrom w.heap.size (fun (_ : β) W => Turn T w W) := fun _ _ _ _ hs hg hr =>
  ⟨hg.os.trans hs.os, hg.tape.trans hs.tape, hg.output.trans hs.output, Nat.le_trans hs.size hg.size, fun k hk hT => (hg.block k (Nat.lt_of_lt_of_le hk hs.size) (fun e => by have := (hr k e.symm).1; omega)).trans (hs.block k hk hT)⟩
theorem Turn.mono {T T' : Nat → Prop} {w w' : World} (h : Turn T w w') (hT : ∀ k, T k → T' k) : Turn T' w w' := ⟨h.os, h.tape, h.output, h.size, fun k hk hn => h.block k hk (fun ht => hn (hT k ht))⟩
end Go.Proofs.YtmdfiamffipbcaaDoor
