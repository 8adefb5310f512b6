/- A row of ints, read in the two ways. -/
import Derived.Test.YtjjeabonoajcbaaLtlWorkI
import Derived.Test.YtjjeabonoajcbaaLtlParts
import Derived.Shelf.Abstract
namespace Go.Proofs.Ytjjeabonoajcbaa.lt
open Go.ChangeShapes Go.WideShapes Go.ChangeAt Go.RowKit sr wi

theorem ia_rs {w : World} {A : Option Addr} {l : List Int} (h : RS enc 1 w A l) : IA w A l := fun hn => by
  obtain ⟨b, off, e, hb, hc⟩ := h hn
  refine ⟨b, off, e, hb, fun i hi => ?_⟩
  have := hc i hi 0 (by omega)
  rw [Nat.mul_one, Nat.add_zero] at this
  exact this
end Go.Proofs.Ytjjeabonoajcbaa.lt
