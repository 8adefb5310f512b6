/-
  No cell of these rows narrows 'for every input' (looked for: loops, veiled, ifaces, maps, wideKeys, modest, calm, conditions, laid).
  DERIVED. THE GIVEN ROWS OF THIS SEAT. 3 by the template 'for every input the law returns true; each argument reads behind the call as it read before'; 0 by the template 'total and deterministic' (their statements: YtodloljpfbkkjaaRRRRTotals.lean).
  GIVEN WITH THE SEED: the statements are not yours to turn. If you find one false, say at which input.
  Laid BY PROGRAM, IN A SANDBOX (cutbox-rows.mjs): the forced cells as the released guide's own fill.sh prints them over the translation c4e789979b5e74d2… (all of the seat's roots in one cut). By AI agents, Wed Nov 11 2026. No macro, syntax, notation, axiom, sorry.
-/
import Derived.Test.YtodloljpfbkkjaaRRRRChecked
import GoSem.Claim
import GoSem.ClaimJoined
import GoSem.ClaimMapViews
import Derived.JoinedTies
import Derived.KernelRfl
namespace Go.Proofs.YtodloljpfbkkjaaRRRR
/- THE CELL 'sum', in the pinned program and in every row, IS THE sha256 OF THE DUMP (.gsa) THAT YtodloljpfbkkjaaRRRRProg.lean LOADS. Nothing in Lean hashes anything: it is a label: what it is worth is what the hold of that sum in a sandbox is worth. -/
noncomputable def Try.pinned : Pinned := { name := "ytodloljpfbkkjaarrrr", sum := "c4e789979b5e74d2d57af4cf1837d4fcbcc04e8209199537e8f08bcff77c2814", checked := Try.checked }
namespace Rows
def none {H : Type} : Left H := { results := [], args := [] }

/-- 'lariatlaw10.ExprFits': WHATEVER THE INPUT: true; the input reads as it did. -/
def exprFitsSpec : ChangeSpec := { name := "exprFits", fn := fun _ => fun
  | [d1, d2, d3] => { results := [.lit (.bool true)], args := [d1, d2, d3] }
  | _ => none }
def exprFitsRow : OpenClaim := { program := "ytodloljpfbkkjaarrrr", sum := "c4e789979b5e74d2d57af4cf1837d4fcbcc04e8209199537e8f08bcff77c2814", func := "lariat/lariatlaw10.ExprFits", spec := "exprFits", unfollowed := true, recurses := true, apart := false }
def ExprFitsSaid : Prop := exprFitsRow.holds Try.pinned (OpenSpec.ofChange exprFitsSpec)

/-- ITS FALSE NEIGHBOUR: 'it returns false'. Refute it at one input. -/
def exprFitsWrong : ChangeSpec := { name := "exprFits", fn := fun _ => fun
  | [d1, d2, d3] => { results := [.lit (.bool false)], args := [d1, d2, d3] }
  | _ => none }
def ExprFitsWrongFalsely : Prop := exprFitsRow.holds Try.pinned (OpenSpec.ofChange exprFitsWrong)

/-- 'lariatlaw12.DeclNames': WHATEVER THE INPUT: true; the input reads as it did. -/
def declNamesSpec : ChangeSpec := { name := "declNames", fn := fun _ => fun
  | [d] => { results := [.lit (.bool true)], args := [d] }
  | _ => none }
def declNamesRow : OpenClaim := { program := "ytodloljpfbkkjaarrrr", sum := "c4e789979b5e74d2d57af4cf1837d4fcbcc04e8209199537e8f08bcff77c2814", func := "lariat/lariatlaw12.DeclNames", spec := "declNames", unfollowed := true, recurses := true, apart := false }
def DeclNamesSaid : Prop := declNamesRow.holds Try.pinned (OpenSpec.ofChange declNamesSpec)

/-- ITS FALSE NEIGHBOUR: 'it returns false'. Refute it at one input. -/
def declNamesWrong : ChangeSpec := { name := "declNames", fn := fun _ => fun
  | [d] => { results := [.lit (.bool false)], args := [d] }
  | _ => none }
def DeclNamesWrongFalsely : Prop := declNamesRow.holds Try.pinned (OpenSpec.ofChange declNamesWrong)

/-- 'lariatlaw12.DeclParts': WHATEVER THE INPUT: true; the input reads as it did. -/
def declPartsSpec : ChangeSpec := { name := "declParts", fn := fun _ => fun
  | [d1, d2, d3, d4] => { results := [.lit (.bool true)], args := [d1, d2, d3, d4] }
  | _ => none }
def declPartsRow : OpenClaim := { program := "ytodloljpfbkkjaarrrr", sum := "c4e789979b5e74d2d57af4cf1837d4fcbcc04e8209199537e8f08bcff77c2814", func := "lariat/lariatlaw12.DeclParts", spec := "declParts", unfollowed := true, recurses := true, apart := false }
def DeclPartsSaid : Prop := declPartsRow.holds Try.pinned (OpenSpec.ofChange declPartsSpec)

/-- ITS FALSE NEIGHBOUR: 'it returns false'. Refute it at one input. -/
def declPartsWrong : ChangeSpec := { name := "declParts", fn := fun _ => fun
  | [d1, d2, d3, d4] => { results := [.lit (.bool false)], args := [d1, d2, d3, d4] }
  | _ => none }
def DeclPartsWrongFalsely : Prop := declPartsRow.holds Try.pinned (OpenSpec.ofChange declPartsWrong)

/- THE SECOND FORM. 'bulk': how many values and letters a reading holds, each counted each time it is reached (what is shared counts as often as it is met; a slice's spare places count too). A statement '..UptoSaid' is the law's where the arguments, and the package variables that the reading takes, are together of bulk at most 1048576: NARROWER than '..Said'. Prove '..Said' where nothing that the law and all that it calls make is longer than what came in: it says more and counts as full. Else prove '..UptoSaid'. A law counts once. -/
mutual
def uptoBulk {H : Type} : DataW H → Nat
  | .lit (.string bytes) => bytes.length + 1
  | .lit _ => 1
  | .nil => 1
  | .ptr d => uptoBulk d + 1
  | .slice elems spare => uptoBulkAll elems + uptoBulkAll spare + 1
  | .agg parts => uptoBulkAll parts + 1
  | .iface _ d => uptoBulk d + 1
  | .map entries => uptoBulkEntries entries + 1
  | .held _ => 1
def uptoBulkAll {H : Type} : List (DataW H) → Nat
  | [] => 0
  | d :: r => uptoBulk d + uptoBulkAll r
def uptoBulkEntries {H : Type} : List (Lit × DataW H) → Nat
  | [] => 0
  | x :: r => uptoBulkEntry x + uptoBulkEntries r
def uptoBulkEntry {H : Type} : Lit × DataW H → Nat
  | (.string bytes, d) => bytes.length + uptoBulk d + 1
  | (_, d) => uptoBulk d + 1
 end
def uptoSmall : (H : Type) → List (DataW H) → Bool := fun _ ds => decide (uptoBulkAll ds ≤ 1048576)
def OpenSpec.upto (s : _root_.Go.ChangeSpec) : _root_.Go.OpenSpec := { _root_.Go.OpenSpec.ofChange s with cond := some uptoSmall }

/-- 'lariatlaw10.ExprFits', WHERE WHAT IT READS IS OF BULK AT MOST 1048576: true; the input reads as it did. -/
def exprFitsUptoRow : OpenClaim := { program := "ytodloljpfbkkjaarrrr", sum := "c4e789979b5e74d2d57af4cf1837d4fcbcc04e8209199537e8f08bcff77c2814", func := "lariat/lariatlaw10.ExprFits", spec := "exprFits", unfollowed := true, recurses := true, apart := false, narrowed := true }
def ExprFitsUptoSaid : Prop := exprFitsUptoRow.holds Try.pinned (OpenSpec.upto exprFitsSpec)

/-- 'lariatlaw12.DeclNames', WHERE WHAT IT READS IS OF BULK AT MOST 1048576: true; the input reads as it did. -/
def declNamesUptoRow : OpenClaim := { program := "ytodloljpfbkkjaarrrr", sum := "c4e789979b5e74d2d57af4cf1837d4fcbcc04e8209199537e8f08bcff77c2814", func := "lariat/lariatlaw12.DeclNames", spec := "declNames", unfollowed := true, recurses := true, apart := false, narrowed := true }
def DeclNamesUptoSaid : Prop := declNamesUptoRow.holds Try.pinned (OpenSpec.upto declNamesSpec)

/-- 'lariatlaw12.DeclParts', WHERE WHAT IT READS IS OF BULK AT MOST 1048576: true; the input reads as it did. -/
def declPartsUptoRow : OpenClaim := { program := "ytodloljpfbkkjaarrrr", sum := "c4e789979b5e74d2d57af4cf1837d4fcbcc04e8209199537e8f08bcff77c2814", func := "lariat/lariatlaw12.DeclParts", spec := "declParts", unfollowed := true, recurses := true, apart := false, narrowed := true }
def DeclPartsUptoSaid : Prop := declPartsUptoRow.holds Try.pinned (OpenSpec.upto declPartsSpec)

end Rows
end Go.Proofs.YtodloljpfbkkjaaRRRR
