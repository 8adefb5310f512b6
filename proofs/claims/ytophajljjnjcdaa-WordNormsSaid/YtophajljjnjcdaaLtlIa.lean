/- A row of ints, read in the two ways. -/
import Derived.Test.YtophajljjnjcdaaLtlWorkI
import Derived.Test.YtophajljjnjcdaaLtlParts
import Derived.Shelf.Abstract
namespace Go.Proofs.Ytophajljjnjcdaa.lt
open Go.ChangeShapes Go.WideShapes Go.ChangeAt Go.RowKit sr wi

theorem ia_rs {w : World} {A : Option Addr} {l : List Int} (h : RS enc 1 w A l) : IA w A l := fun hn => by
  obtain ⟨b, off, e, hb, hc⟩ := h hn
  refine ⟨b, off, e, hb, fun i hi => ?_⟩
  have := hc i hi 0 (by omega)
  rw [Nat.mul_one, Nat.add_zero] at this
  exact this
end Go.Proofs.Ytophajljjnjcdaa.lt
