/- A set of texts: a map from texts to truths that the call itself has made. -/
import Derived.Test.YtodloljpfbkkjaaRRRRLaw
import Derived.Maps.OwnOps
import Derived.Maps.Views
import Derived.StringKeys
namespace Go.Proofs.YtodloljpfbkkjaaRRRR.dcl
open Go.ChangeShapes Go.WideShapes Go.ChangeAt Go.RowKit Go.Maps

theorem law : Keyed Try.prog 9 := string_keyed Try.underlying9
theorem zeroB (w : World) : (zeroValue 4).run Try.prog w = .ok (.bool false) w := by kernel_rfl
def seenB (seen : List ByteArray) (x : ByteArray) : Bool := seen.any fun y => decide (y.data.toList = x.data.toList)
/-- Block b is a map that tells of each text whether it is among those that were seen. -/
def MSet (w : World) (b : Nat) (seen : List ByteArray) : Prop :=
  ∃ D : DataW Unit, w.ownsMap Try.prog 9 (plainElem Try.prog 4) b seen.length D ∧ IsMap D ∧ ∀ x : ByteArray, D.atKey (.string x.data.toList) (.lit (.bool false)) = .lit (.bool (seenB seen x))
set_option maxRecDepth 100000 in
theorem plainElem_bool_inv {H : Type} {v : Value} {c : Bool} {ps : List MemPlace} (h : plainElem (H := H) Try.prog 4 v = some (.lit (.bool c), ps)) : v = .bool c := by
  unfold plainElem at h
  rw [Try.underlying4] at h
  cases v <;> simp at h
  obtain ⟨rfl, _⟩ := h
  rfl
theorem MSet.made (w : World) : MSet (w.alloc (.map #[] 0)) w.heap.size [] := ⟨.map [], World.ownsMap_made _ _ _ _, ⟨_, rfl⟩, fun _ => rfl⟩
theorem MSet.lookup {w : World} {b : Nat} {seen : List ByteArray} (h : MSet w b seen) {s : ByteArray} (hs : s.size ≤ maxLen) : (Instr.lookup 115 (.map (some b)) (.string s) false).run Try.prog w = .ok (.bool (seenB seen s)) w := by
  obtain ⟨D, ho, _, hD⟩ := h
  obtain ⟨v, ps, hrun, hv⟩ := ho.lookup law Try.underlying115 (zeroB w) (plainElem_bool Try.underlying4 false) (WideMaps.keyOf_string_mk Try.underlying9 hs)
  rw [hD s] at hv
  rw [hrun, plainElem_bool_inv hv]
theorem MSet.update {w : World} {b : Nat} {seen : List ByteArray} (h : MSet w b seen) {s : ByteArray} (hs : s.size ≤ maxLen) (hn : seen.length < maxLen) : ∃ w', (Instr.mapUpdate 115 (.map (some b)) (.string s) (.bool true)).run Try.prog w = .ok () w' ∧ MSet w' b (seen ++ [s]) ∧ w.grownBy w' (some b) := by
  obtain ⟨D, ho, hm, hD⟩ := h
  obtain ⟨w', hrun, ho', hg⟩ := ho.update law Try.underlying115 hn (WideMaps.keyOf_string_mk Try.underlying9 hs) (plainElem_bool Try.underlying4 true)
  refine ⟨w', hrun, ⟨_, by simpa using ho', ?_, fun x => ?_⟩, hg⟩
  · obtain ⟨l, rfl⟩ := hm
    exact ⟨_, rfl⟩
  · by_cases hx : x.data.toList = s.data.toList
    · rw [hx, atKey_put_same hm (by first | exact ⟨_, rfl⟩ | simp [WideAt.IsKeyLit] | trivial)]
      simp [seenB, hx]
    · rw [atKey_put_other (by simpa using hx), hD x]
      have : decide (s.data.toList = x.data.toList) = false := decide_eq_false (fun e => hx e.symm)
      unfold seenB
      rw [List.any_append, List.any_cons, this]
      simp
theorem MSet.kept {w w' : World} {b : Nat} {seen : List ByteArray} (h : MSet w b seen) {row : Option Nat} (hg : w.grownBy w' row) (hne : some b ≠ row) : MSet w' b seen := by
  obtain ⟨D, ho, r⟩ := h
  exact ⟨D, ho.kept hg hne, r⟩
theorem MSet.lt {w : World} {b : Nat} {seen : List ByteArray} (h : MSet w b seen) : b < w.heap.size := by
  obtain ⟨D, ho, _⟩ := h
  exact ho.lt
theorem MSet.below {w w' : World} {b : Nat} {seen : List ByteArray} (h : MSet w b seen) (hb : Below w.heap.size w w') : MSet w' b seen := by
  have hlt := h.lt
  obtain ⟨D, ⟨es, clock, h1, h2⟩, r⟩ := h
  exact ⟨D, ⟨es, clock, (hb.block b hlt).trans h1, h2⟩, r⟩
end Go.Proofs.YtodloljpfbkkjaaRRRR.dcl
