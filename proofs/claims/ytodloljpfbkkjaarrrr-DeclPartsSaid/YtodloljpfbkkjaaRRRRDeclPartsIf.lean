/- A function's if, by the slot of its test. -/
import Derived.Test.YtodloljpfbkkjaaRRRRDeclAwake
import Derived.Test.YtodloljpfbkkjaaRRRRDeclPartsPure
import Derived.Test.YtodloljpfbkkjaaRRRRDeclApp
namespace Go.Proofs.YtodloljpfbkkjaaRRRR.declParts

/-- The first if of a row of statements whose test lies in slot n. -/
def findIf (n : Nat) : Code → Option Code
  | .seq a b => match findIf n a with
    | some c => some c
    | none => findIf n b
  | .cond (.tmp k) t e => if k = n then some (.cond (.tmp k) t e) else none
  | _ => none
end Go.Proofs.YtodloljpfbkkjaaRRRR.declParts
