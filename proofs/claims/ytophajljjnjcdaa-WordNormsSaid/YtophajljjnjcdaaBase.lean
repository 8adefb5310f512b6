/- Small words of our own for proofs on this program: a slice value that reads as a list of numbers; what a call leaves of the world. Nothing here speaks of the program. -/
import Derived.Test.YtophajljjnjcdaaRows
import Derived.WalkKit
import Derived.ProofKit
import Derived.OpenShut
import Derived.Handy
import Derived.Below
import Derived.Outline
import Derived.RegionTactic
import Derived.ChangeAlike
import Derived.Deep.QuietTactic
import Derived.BigQuiet
import Derived.Lib.Hide
import Derived.WalkSpells
import Derived.StillTailTactics
import Derived.Deep.OwnRows
namespace Go.Proofs.Ytophajljjnjcdaa
open Go.ChangeShapes Go.WideShapes Go.ChangeAt Go.RowKit

/-- A region whose first n operations only read, and whose others stand in one order: the draw's world under a name of its own. -/
theorem still_tail_at {P : Program} {id : Nat} {Q : Exit → Act → World → Prop} {a : Act} {w : World} {l : List Oper} (n : Nat) (hm : P.follows .mixedOrders = true) (hB : Region.lexTailB .any l.toArray n = true)
    (h : ∀ W, W = w.drew → wpStill P l.toArray W (fun a' => wpList P l.toArray Q (l.drop n) a' W) (l.take n) a) : (Code.region id l.toArray true).wp P Q a w := wp_region_still_tail n hm hB (h _ rfl)

/-- A slice of ints at address A (nil let in) reads as zs. -/
def IA (w : World) (A : Option Addr) (zs : List Int) : Prop :=
  0 < zs.length → ∃ b off, A = some ⟨b, off, none⟩ ∧ b < w.heap.size ∧ ∀ i, i < zs.length → w.cell? ⟨b, off + i, none⟩ = some (.int .i64 (zs.getD i 0))

/-- All numbers are ints of 64 bits. -/
def W64 (zs : List Int) : Prop := ∀ z ∈ zs, -9223372036854775808 ≤ z ∧ z ≤ 9223372036854775807

theorem W64.at_ {zs : List Int} (h : W64 zs) (i : Nat) : -9223372036854775808 ≤ zs.getD i 0 ∧ zs.getD i 0 ≤ 9223372036854775807 := by
  by_cases hi : i < zs.length
  · have e : zs.getD i 0 = zs[i] := by simp [List.getD, hi]
    rw [e]; exact h _ (List.getElem_mem hi)
  · have e : zs.getD i 0 = 0 := by simp [List.getD, hi]
    rw [e]; omega

theorem IA.keep {w w' : World} {A : Option Addr} {zs : List Int} (h : IA w A zs) (hs : w.heap.size ≤ w'.heap.size) (hk : ∀ p : Addr, p.block < w.heap.size → w'.cell? p = w.cell? p) : IA w' A zs := fun hn => by
  obtain ⟨b, off, e, hb, hc⟩ := h hn
  exact ⟨b, off, e, Nat.lt_of_lt_of_le hb hs, fun i hi => (hk ⟨b, off + i, none⟩ hb).trans (hc i hi)⟩
theorem IA.below {w w' : World} {A : Option Addr} {zs : List Int} (h : IA w A zs) (hb : Below w.heap.size w w') : IA w' A zs := h.keep hb.size fun _ hp => hb.cell hp
theorem IA.nil (w : World) (A : Option Addr) : IA w A [] := fun h => absurd h (by simp)
theorem IA.drewN {w : World} {A : Option Addr} {zs : List Int} (h : IA w A zs) (n : Nat) : IA (w.drewN n) A zs := h

theorem IA.alloc {w : World} {A : Option Addr} {zs : List Int} (h : IA w A zs) (o : Obj) : IA (w.alloc o) A zs := h.below ((Below.refl _ _).alloc (Nat.le_refl _) _)
theorem ia_lit (w : World) (zs : List Int) (c : Array Value) (t : TypeId) (hc : c = (zs.map (Value.int .i64)).toArray) : IA (w.alloc (.cells c t)) (some ⟨w.heap.size, 0, none⟩) zs := fun _ => by
  have h := World.rowIs_alloc w c t (fun i => .int .i64 (zs.getD i 0)) (fun i hi => by subst hc; simp at hi; simp [List.getD, hi])
  refine ⟨_, 0, rfl, h.lt, fun i hi => ?_⟩
  have := h.cell (i := i) (by subst hc; simpa using hi)
  rw [Nat.zero_add]; exact this

theorem ret_bool {a b : Bool} (h : a = b) : Ending.returned (.bool a) = .returned (.bool b) := by rw [h]
theorem ret_int {a b : Int} (h : a = b) : Ending.returned (.int .i64 a) = .returned (.int .i64 b) := by rw [h]
theorem below_drewN {B : Nat} {a w : World} (h : Below B a w) (n : Nat) : Below B a (w.drewN n) := ⟨h.os, h.tape, h.output, h.size, h.block⟩
end Go.Proofs.Ytophajljjnjcdaa
