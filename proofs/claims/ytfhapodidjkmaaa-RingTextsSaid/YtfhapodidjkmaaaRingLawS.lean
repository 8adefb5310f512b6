/- The law's list, slices.Equal, works, Most. -/
import Derived.Test.YtfhapodidjkmaaaRingLaw
import Derived.Test.YtfhapodidjkmaaaRingPutS
namespace Go.Proofs.Ytfhapodidjkmaaa.str
open Go.ChangeShapes Go.WideShapes Go.ChangeAt Go.RowKit Go.Shelf
theorem Try.seqNotNil (w : World) (f : Fn) (x y : Array Value) : (binOp .eql 50 (.func f x y) .nilFunc).run Try.prog w = .ok (.bool false) w := run_eql_func_nil w _ Try.underlying50 f x y

/-- What the law's list leaves. -/
def Listed (w : World) (l : List ByteArray) (e : Ending) (w' : World) : Prop := ∃ A c, e = .returned (.tuple #[.slice A l.length c, .bool true]) ∧ IA w' A l ∧ (∀ a, A = some a → w.heap.size ≤ a.block) ∧ Below w.heap.size w w'
theorem collected {w : World} {s : Nat} {t : Option Nat} {most : Nat} {l : List ByteArray} (h : QU w s t most l) : Calls Try.prog 33 #[.func (.func 64) #[] #[.pointer (some ⟨w.heap.size, 0, none⟩)]] (w.alloc (.cells #[.pointer (some ⟨s, 0, none⟩)] 46)) fun e w' => ∃ A c, e = .returned (.slice A l.length c) ∧ IA w' A l ∧ (∀ a, A = some a → w.heap.size ≤ a.block) ∧ Below w.heap.size w w' := by
  have hlt := h.lt
  have hr := h.room
  have hBn : (w.alloc (.cells #[.pointer (some ⟨s, 0, none⟩)] 46)).cell? ⟨w.heap.size, 0, none⟩ = some (.pointer (some ⟨s, 0, none⟩)) := (Boxed.new w _ _).cell
  have hz : (w.alloc (.cells #[.pointer (some ⟨s, 0, none⟩)] 46)).heap.size = w.heap.size + 1 := by simp
  have hB0 : Below w.heap.size w (w.alloc (.cells #[.pointer (some ⟨s, 0, none⟩)] 46)) := (Below.refl _ w).alloc (Nat.le_refl _) _
  have h2 := h.keep hB0
  generalize w.alloc (.cells #[.pointer (some ⟨s, 0, none⟩)] 46) = W at *
  have hK : ∀ q, (q = s ∨ q = w.heap.size ∨ t = some q) → q < W.heap.size := fun q hq => by
    rcases hq with rfl | rfl | e
    · omega
    · omega
    · have := hlt.2 q e; omega
  refine (collect_any 64 #[.pointer (some ⟨w.heap.size, 0, none⟩)] l (fun q => q = s ∨ q = w.heap.size ∨ t = some q) W hK (by omega) (enters_of Try.func64 (by kernel_rfl) rfl)
    (all_stops _ w.heap.size s t most l W hK (.inl rfl) (fun b e => .inr (.inr e)) (.inr (.inl rfl)) hBn h2)).mono ?_
  rintro e w' ⟨v, rfl, ho, hb⟩
  have hbase : ∀ k, v.ownBlock = some k → w.heap.size ≤ k := fun k e => by have := (World.ownsRow.lt ho k e).1; omega
  obtain ⟨A, c, rfl, hA⟩ := ho.form
  exact ⟨A, c, rfl, hA, fun a e => hbase a.block (by rw [e]; rfl), hB0.trans (hb.mono (by omega))⟩
end Go.Proofs.Ytfhapodidjkmaaa.str
