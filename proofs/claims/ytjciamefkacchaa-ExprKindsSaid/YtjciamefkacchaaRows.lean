/-
  No cell of these rows narrows 'for every input' (looked for: loops, veiled, ifaces, maps, wideKeys, modest, calm, conditions, laid).
  DERIVED. THE GIVEN ROWS OF THIS SEAT. 12 by the template 'for every input the law returns true; each argument reads behind the call as it read before'; 0 by the template 'total and deterministic' (their statements: YtjciamefkacchaaTotals.lean).
  GIVEN WITH THE SEED: the statements are not yours to turn. If you find one false, say at which input.
  Laid BY PROGRAM, IN A SANDBOX (cutbox-rows.mjs): the forced cells as the released guide's own fill.sh prints them over the translation d4c131462b56fc11… (all of the seat's roots in one cut). By AI agents, Wed Nov 11 2026. No macro, syntax, notation, axiom, sorry.
-/
import Derived.Test.YtjciamefkacchaaChecked
import GoSem.Claim
import GoSem.ClaimJoined
import GoSem.ClaimMapViews
import Derived.JoinedTies
import Derived.KernelRfl
namespace Go.Proofs.Ytjciamefkacchaa
/- THE CELL 'sum', in the pinned program and in every row, IS THE sha256 OF THE DUMP (.gsa) THAT YtjciamefkacchaaProg.lean LOADS. Nothing in Lean hashes anything: it is a label: what it is worth is what the hold of that sum in a sandbox is worth. -/
noncomputable def Try.pinned : Pinned := { name := "ytjciamefkacchaa", sum := "d4c131462b56fc11d7c10b63b0721ee4116f2d58d8dbde999ee4c35eb0fec254", checked := Try.checked }
namespace Rows
def none {H : Type} : Left H := { results := [], args := [] }

/-- 'lariatlaw10.ExprKinds': WHATEVER THE INPUT: true; the input reads as it did. -/
def exprKindsSpec : ChangeSpec := { name := "exprKinds", fn := fun _ => fun
  | [d1, d2] => { results := [.lit (.bool true)], args := [d1, d2] }
  | _ => none }
def exprKindsRow : OpenClaim := { program := "ytjciamefkacchaa", sum := "d4c131462b56fc11d7c10b63b0721ee4116f2d58d8dbde999ee4c35eb0fec254", func := "lariat/lariatlaw10.ExprKinds", spec := "exprKinds", unfollowed := true, recurses := true, apart := false }
def ExprKindsSaid : Prop := exprKindsRow.holds Try.pinned (OpenSpec.ofChange exprKindsSpec)

/-- ITS FALSE NEIGHBOUR: 'it returns false'. Refute it at one input. -/
def exprKindsWrong : ChangeSpec := { name := "exprKinds", fn := fun _ => fun
  | [d1, d2] => { results := [.lit (.bool false)], args := [d1, d2] }
  | _ => none }
def ExprKindsWrongFalsely : Prop := exprKindsRow.holds Try.pinned (OpenSpec.ofChange exprKindsWrong)

/-- 'lariatlaw10.ExprEvals': WHATEVER THE INPUT: true; the input reads as it did. -/
def exprEvalsSpec : ChangeSpec := { name := "exprEvals", fn := fun _ => fun
  | [d1, d2] => { results := [.lit (.bool true)], args := [d1, d2] }
  | _ => none }
def exprEvalsRow : OpenClaim := { program := "ytjciamefkacchaa", sum := "d4c131462b56fc11d7c10b63b0721ee4116f2d58d8dbde999ee4c35eb0fec254", func := "lariat/lariatlaw10.ExprEvals", spec := "exprEvals", unfollowed := true, recurses := true, apart := false }
def ExprEvalsSaid : Prop := exprEvalsRow.holds Try.pinned (OpenSpec.ofChange exprEvalsSpec)

/-- ITS FALSE NEIGHBOUR: 'it returns false'. Refute it at one input. -/
def exprEvalsWrong : ChangeSpec := { name := "exprEvals", fn := fun _ => fun
  | [d1, d2] => { results := [.lit (.bool false)], args := [d1, d2] }
  | _ => none }
def ExprEvalsWrongFalsely : Prop := exprEvalsRow.holds Try.pinned (OpenSpec.ofChange exprEvalsWrong)

/-- 'lariatlaw10.ExprSpans': WHATEVER THE INPUT: true; the input reads as it did. -/
def exprSpansSpec : ChangeSpec := { name := "exprSpans", fn := fun _ => fun
  | [d] => { results := [.lit (.bool true)], args := [d] }
  | _ => none }
def exprSpansRow : OpenClaim := { program := "ytjciamefkacchaa", sum := "d4c131462b56fc11d7c10b63b0721ee4116f2d58d8dbde999ee4c35eb0fec254", func := "lariat/lariatlaw10.ExprSpans", spec := "exprSpans", unfollowed := true, recurses := true, apart := false }
def ExprSpansSaid : Prop := exprSpansRow.holds Try.pinned (OpenSpec.ofChange exprSpansSpec)

/-- ITS FALSE NEIGHBOUR: 'it returns false'. Refute it at one input. -/
def exprSpansWrong : ChangeSpec := { name := "exprSpans", fn := fun _ => fun
  | [d] => { results := [.lit (.bool false)], args := [d] }
  | _ => none }
def ExprSpansWrongFalsely : Prop := exprSpansRow.holds Try.pinned (OpenSpec.ofChange exprSpansWrong)

/-- 'lariatlaw10.ExprUses': WHATEVER THE INPUT: true; the input reads as it did. -/
def exprUsesSpec : ChangeSpec := { name := "exprUses", fn := fun _ => fun
  | [d] => { results := [.lit (.bool true)], args := [d] }
  | _ => none }
def exprUsesRow : OpenClaim := { program := "ytjciamefkacchaa", sum := "d4c131462b56fc11d7c10b63b0721ee4116f2d58d8dbde999ee4c35eb0fec254", func := "lariat/lariatlaw10.ExprUses", spec := "exprUses", unfollowed := true, recurses := true, apart := false }
def ExprUsesSaid : Prop := exprUsesRow.holds Try.pinned (OpenSpec.ofChange exprUsesSpec)

/-- ITS FALSE NEIGHBOUR: 'it returns false'. Refute it at one input. -/
def exprUsesWrong : ChangeSpec := { name := "exprUses", fn := fun _ => fun
  | [d] => { results := [.lit (.bool false)], args := [d] }
  | _ => none }
def ExprUsesWrongFalsely : Prop := exprUsesRow.holds Try.pinned (OpenSpec.ofChange exprUsesWrong)

/-- 'lariatlaw10.ExprParts': WHATEVER THE INPUT: true; the input reads as it did. -/
def exprPartsSpec : ChangeSpec := { name := "exprParts", fn := fun _ => fun
  | [d1, d2] => { results := [.lit (.bool true)], args := [d1, d2] }
  | _ => none }
def exprPartsRow : OpenClaim := { program := "ytjciamefkacchaa", sum := "d4c131462b56fc11d7c10b63b0721ee4116f2d58d8dbde999ee4c35eb0fec254", func := "lariat/lariatlaw10.ExprParts", spec := "exprParts", unfollowed := true, recurses := true, apart := false }
def ExprPartsSaid : Prop := exprPartsRow.holds Try.pinned (OpenSpec.ofChange exprPartsSpec)

/-- ITS FALSE NEIGHBOUR: 'it returns false'. Refute it at one input. -/
def exprPartsWrong : ChangeSpec := { name := "exprParts", fn := fun _ => fun
  | [d1, d2] => { results := [.lit (.bool false)], args := [d1, d2] }
  | _ => none }
def ExprPartsWrongFalsely : Prop := exprPartsRow.holds Try.pinned (OpenSpec.ofChange exprPartsWrong)

/-- 'lariatlaw10.ExprFits': WHATEVER THE INPUT: true; the input reads as it did. -/
def exprFitsSpec : ChangeSpec := { name := "exprFits", fn := fun _ => fun
  | [d1, d2, d3] => { results := [.lit (.bool true)], args := [d1, d2, d3] }
  | _ => none }
def exprFitsRow : OpenClaim := { program := "ytjciamefkacchaa", sum := "d4c131462b56fc11d7c10b63b0721ee4116f2d58d8dbde999ee4c35eb0fec254", func := "lariat/lariatlaw10.ExprFits", spec := "exprFits", unfollowed := true, recurses := true, apart := false }
def ExprFitsSaid : Prop := exprFitsRow.holds Try.pinned (OpenSpec.ofChange exprFitsSpec)

/-- ITS FALSE NEIGHBOUR: 'it returns false'. Refute it at one input. -/
def exprFitsWrong : ChangeSpec := { name := "exprFits", fn := fun _ => fun
  | [d1, d2, d3] => { results := [.lit (.bool false)], args := [d1, d2, d3] }
  | _ => none }
def ExprFitsWrongFalsely : Prop := exprFitsRow.holds Try.pinned (OpenSpec.ofChange exprFitsWrong)

/-- 'lariatlaw12.DeclScalars': WHATEVER THE INPUT: true; the input reads as it did. -/
def declScalarsSpec : ChangeSpec := { name := "declScalars", fn := fun _ => fun
  | [d] => { results := [.lit (.bool true)], args := [d] }
  | _ => none }
def declScalarsRow : OpenClaim := { program := "ytjciamefkacchaa", sum := "d4c131462b56fc11d7c10b63b0721ee4116f2d58d8dbde999ee4c35eb0fec254", func := "lariat/lariatlaw12.DeclScalars", spec := "declScalars", unfollowed := true, recurses := true, apart := false }
def DeclScalarsSaid : Prop := declScalarsRow.holds Try.pinned (OpenSpec.ofChange declScalarsSpec)

/-- ITS FALSE NEIGHBOUR: 'it returns false'. Refute it at one input. -/
def declScalarsWrong : ChangeSpec := { name := "declScalars", fn := fun _ => fun
  | [d] => { results := [.lit (.bool false)], args := [d] }
  | _ => none }
def DeclScalarsWrongFalsely : Prop := declScalarsRow.holds Try.pinned (OpenSpec.ofChange declScalarsWrong)

/-- 'lariatlaw12.DeclVars': WHATEVER THE INPUT: true; the input reads as it did. -/
def declVarsSpec : ChangeSpec := { name := "declVars", fn := fun _ => fun
  | [d1, d2, d3] => { results := [.lit (.bool true)], args := [d1, d2, d3] }
  | _ => none }
def declVarsRow : OpenClaim := { program := "ytjciamefkacchaa", sum := "d4c131462b56fc11d7c10b63b0721ee4116f2d58d8dbde999ee4c35eb0fec254", func := "lariat/lariatlaw12.DeclVars", spec := "declVars", unfollowed := true, recurses := true, apart := false }
def DeclVarsSaid : Prop := declVarsRow.holds Try.pinned (OpenSpec.ofChange declVarsSpec)

/-- ITS FALSE NEIGHBOUR: 'it returns false'. Refute it at one input. -/
def declVarsWrong : ChangeSpec := { name := "declVars", fn := fun _ => fun
  | [d1, d2, d3] => { results := [.lit (.bool false)], args := [d1, d2, d3] }
  | _ => none }
def DeclVarsWrongFalsely : Prop := declVarsRow.holds Try.pinned (OpenSpec.ofChange declVarsWrong)

/-- 'lariatlaw12.DeclChans': WHATEVER THE INPUT: true; the input reads as it did. -/
def declChansSpec : ChangeSpec := { name := "declChans", fn := fun _ => fun
  | [d1, d2] => { results := [.lit (.bool true)], args := [d1, d2] }
  | _ => none }
def declChansRow : OpenClaim := { program := "ytjciamefkacchaa", sum := "d4c131462b56fc11d7c10b63b0721ee4116f2d58d8dbde999ee4c35eb0fec254", func := "lariat/lariatlaw12.DeclChans", spec := "declChans", unfollowed := true, recurses := true, apart := false }
def DeclChansSaid : Prop := declChansRow.holds Try.pinned (OpenSpec.ofChange declChansSpec)

/-- ITS FALSE NEIGHBOUR: 'it returns false'. Refute it at one input. -/
def declChansWrong : ChangeSpec := { name := "declChans", fn := fun _ => fun
  | [d1, d2] => { results := [.lit (.bool false)], args := [d1, d2] }
  | _ => none }
def DeclChansWrongFalsely : Prop := declChansRow.holds Try.pinned (OpenSpec.ofChange declChansWrong)

/-- 'lariatlaw12.DeclCells': WHATEVER THE INPUT: true; the input reads as it did. -/
def declCellsSpec : ChangeSpec := { name := "declCells", fn := fun _ => fun
  | [d1, d2] => { results := [.lit (.bool true)], args := [d1, d2] }
  | _ => none }
def declCellsRow : OpenClaim := { program := "ytjciamefkacchaa", sum := "d4c131462b56fc11d7c10b63b0721ee4116f2d58d8dbde999ee4c35eb0fec254", func := "lariat/lariatlaw12.DeclCells", spec := "declCells", unfollowed := true, recurses := true, apart := false }
def DeclCellsSaid : Prop := declCellsRow.holds Try.pinned (OpenSpec.ofChange declCellsSpec)

/-- ITS FALSE NEIGHBOUR: 'it returns false'. Refute it at one input. -/
def declCellsWrong : ChangeSpec := { name := "declCells", fn := fun _ => fun
  | [d1, d2] => { results := [.lit (.bool false)], args := [d1, d2] }
  | _ => none }
def DeclCellsWrongFalsely : Prop := declCellsRow.holds Try.pinned (OpenSpec.ofChange declCellsWrong)

/-- 'lariatlaw12.DeclNames': WHATEVER THE INPUT: true; the input reads as it did. -/
def declNamesSpec : ChangeSpec := { name := "declNames", fn := fun _ => fun
  | [d] => { results := [.lit (.bool true)], args := [d] }
  | _ => none }
def declNamesRow : OpenClaim := { program := "ytjciamefkacchaa", sum := "d4c131462b56fc11d7c10b63b0721ee4116f2d58d8dbde999ee4c35eb0fec254", func := "lariat/lariatlaw12.DeclNames", spec := "declNames", unfollowed := true, recurses := true, apart := false }
def DeclNamesSaid : Prop := declNamesRow.holds Try.pinned (OpenSpec.ofChange declNamesSpec)

/-- ITS FALSE NEIGHBOUR: 'it returns false'. Refute it at one input. -/
def declNamesWrong : ChangeSpec := { name := "declNames", fn := fun _ => fun
  | [d] => { results := [.lit (.bool false)], args := [d] }
  | _ => none }
def DeclNamesWrongFalsely : Prop := declNamesRow.holds Try.pinned (OpenSpec.ofChange declNamesWrong)

/-- 'lariatlaw12.DeclParts': WHATEVER THE INPUT: true; the input reads as it did. -/
def declPartsSpec : ChangeSpec := { name := "declParts", fn := fun _ => fun
  | [d1, d2, d3, d4] => { results := [.lit (.bool true)], args := [d1, d2, d3, d4] }
  | _ => none }
def declPartsRow : OpenClaim := { program := "ytjciamefkacchaa", sum := "d4c131462b56fc11d7c10b63b0721ee4116f2d58d8dbde999ee4c35eb0fec254", func := "lariat/lariatlaw12.DeclParts", spec := "declParts", unfollowed := true, recurses := true, apart := false }
def DeclPartsSaid : Prop := declPartsRow.holds Try.pinned (OpenSpec.ofChange declPartsSpec)

/-- ITS FALSE NEIGHBOUR: 'it returns false'. Refute it at one input. -/
def declPartsWrong : ChangeSpec := { name := "declParts", fn := fun _ => fun
  | [d1, d2, d3, d4] => { results := [.lit (.bool false)], args := [d1, d2, d3, d4] }
  | _ => none }
def DeclPartsWrongFalsely : Prop := declPartsRow.holds Try.pinned (OpenSpec.ofChange declPartsWrong)

/- THE SECOND FORM. 'bulk': how many values and letters a reading holds, each counted each time it is reached (what is shared counts as often as it is met; a slice's spare places count too). A statement '..UptoSaid' is the law's where the arguments, and the package variables that the reading takes, are together of bulk at most 1048576: NARROWER than '..Said'. Prove '..Said' where nothing that the law and all that it calls make is longer than what came in: it says more and counts as full. Else prove '..UptoSaid'. A law counts once. -/
mutual
def uptoBulk {H : Type} : DataW H → Nat
  | .lit (.string bytes) => bytes.length + 1
  | .lit _ => 1
  | .nil => 1
  | .ptr d => uptoBulk d + 1
  | .slice elems spare => uptoBulkAll elems + uptoBulkAll spare + 1
  | .agg parts => uptoBulkAll parts + 1
  | .iface _ d => uptoBulk d + 1
  | .map entries => uptoBulkEntries entries + 1
  | .held _ => 1
def uptoBulkAll {H : Type} : List (DataW H) → Nat
  | [] => 0
  | d :: r => uptoBulk d + uptoBulkAll r
def uptoBulkEntries {H : Type} : List (Lit × DataW H) → Nat
  | [] => 0
  | x :: r => uptoBulkEntry x + uptoBulkEntries r
def uptoBulkEntry {H : Type} : Lit × DataW H → Nat
  | (.string bytes, d) => bytes.length + uptoBulk d + 1
  | (_, d) => uptoBulk d + 1
 end
def uptoSmall : (H : Type) → List (DataW H) → Bool := fun _ ds => decide (uptoBulkAll ds ≤ 1048576)
def OpenSpec.upto (s : _root_.Go.ChangeSpec) : _root_.Go.OpenSpec := { _root_.Go.OpenSpec.ofChange s with cond := some uptoSmall }

/-- 'lariatlaw10.ExprKinds', WHERE WHAT IT READS IS OF BULK AT MOST 1048576: true; the input reads as it did. -/
def exprKindsUptoRow : OpenClaim := { program := "ytjciamefkacchaa", sum := "d4c131462b56fc11d7c10b63b0721ee4116f2d58d8dbde999ee4c35eb0fec254", func := "lariat/lariatlaw10.ExprKinds", spec := "exprKinds", unfollowed := true, recurses := true, apart := false, narrowed := true }
def ExprKindsUptoSaid : Prop := exprKindsUptoRow.holds Try.pinned (OpenSpec.upto exprKindsSpec)

/-- 'lariatlaw10.ExprEvals', WHERE WHAT IT READS IS OF BULK AT MOST 1048576: true; the input reads as it did. -/
def exprEvalsUptoRow : OpenClaim := { program := "ytjciamefkacchaa", sum := "d4c131462b56fc11d7c10b63b0721ee4116f2d58d8dbde999ee4c35eb0fec254", func := "lariat/lariatlaw10.ExprEvals", spec := "exprEvals", unfollowed := true, recurses := true, apart := false, narrowed := true }
def ExprEvalsUptoSaid : Prop := exprEvalsUptoRow.holds Try.pinned (OpenSpec.upto exprEvalsSpec)

/-- 'lariatlaw10.ExprSpans', WHERE WHAT IT READS IS OF BULK AT MOST 1048576: true; the input reads as it did. -/
def exprSpansUptoRow : OpenClaim := { program := "ytjciamefkacchaa", sum := "d4c131462b56fc11d7c10b63b0721ee4116f2d58d8dbde999ee4c35eb0fec254", func := "lariat/lariatlaw10.ExprSpans", spec := "exprSpans", unfollowed := true, recurses := true, apart := false, narrowed := true }
def ExprSpansUptoSaid : Prop := exprSpansUptoRow.holds Try.pinned (OpenSpec.upto exprSpansSpec)

/-- 'lariatlaw10.ExprUses', WHERE WHAT IT READS IS OF BULK AT MOST 1048576: true; the input reads as it did. -/
def exprUsesUptoRow : OpenClaim := { program := "ytjciamefkacchaa", sum := "d4c131462b56fc11d7c10b63b0721ee4116f2d58d8dbde999ee4c35eb0fec254", func := "lariat/lariatlaw10.ExprUses", spec := "exprUses", unfollowed := true, recurses := true, apart := false, narrowed := true }
def ExprUsesUptoSaid : Prop := exprUsesUptoRow.holds Try.pinned (OpenSpec.upto exprUsesSpec)

/-- 'lariatlaw10.ExprParts', WHERE WHAT IT READS IS OF BULK AT MOST 1048576: true; the input reads as it did. -/
def exprPartsUptoRow : OpenClaim := { program := "ytjciamefkacchaa", sum := "d4c131462b56fc11d7c10b63b0721ee4116f2d58d8dbde999ee4c35eb0fec254", func := "lariat/lariatlaw10.ExprParts", spec := "exprParts", unfollowed := true, recurses := true, apart := false, narrowed := true }
def ExprPartsUptoSaid : Prop := exprPartsUptoRow.holds Try.pinned (OpenSpec.upto exprPartsSpec)

/-- 'lariatlaw10.ExprFits', WHERE WHAT IT READS IS OF BULK AT MOST 1048576: true; the input reads as it did. -/
def exprFitsUptoRow : OpenClaim := { program := "ytjciamefkacchaa", sum := "d4c131462b56fc11d7c10b63b0721ee4116f2d58d8dbde999ee4c35eb0fec254", func := "lariat/lariatlaw10.ExprFits", spec := "exprFits", unfollowed := true, recurses := true, apart := false, narrowed := true }
def ExprFitsUptoSaid : Prop := exprFitsUptoRow.holds Try.pinned (OpenSpec.upto exprFitsSpec)

/-- 'lariatlaw12.DeclScalars', WHERE WHAT IT READS IS OF BULK AT MOST 1048576: true; the input reads as it did. -/
def declScalarsUptoRow : OpenClaim := { program := "ytjciamefkacchaa", sum := "d4c131462b56fc11d7c10b63b0721ee4116f2d58d8dbde999ee4c35eb0fec254", func := "lariat/lariatlaw12.DeclScalars", spec := "declScalars", unfollowed := true, recurses := true, apart := false, narrowed := true }
def DeclScalarsUptoSaid : Prop := declScalarsUptoRow.holds Try.pinned (OpenSpec.upto declScalarsSpec)

/-- 'lariatlaw12.DeclVars', WHERE WHAT IT READS IS OF BULK AT MOST 1048576: true; the input reads as it did. -/
def declVarsUptoRow : OpenClaim := { program := "ytjciamefkacchaa", sum := "d4c131462b56fc11d7c10b63b0721ee4116f2d58d8dbde999ee4c35eb0fec254", func := "lariat/lariatlaw12.DeclVars", spec := "declVars", unfollowed := true, recurses := true, apart := false, narrowed := true }
def DeclVarsUptoSaid : Prop := declVarsUptoRow.holds Try.pinned (OpenSpec.upto declVarsSpec)

/-- 'lariatlaw12.DeclChans', WHERE WHAT IT READS IS OF BULK AT MOST 1048576: true; the input reads as it did. -/
def declChansUptoRow : OpenClaim := { program := "ytjciamefkacchaa", sum := "d4c131462b56fc11d7c10b63b0721ee4116f2d58d8dbde999ee4c35eb0fec254", func := "lariat/lariatlaw12.DeclChans", spec := "declChans", unfollowed := true, recurses := true, apart := false, narrowed := true }
def DeclChansUptoSaid : Prop := declChansUptoRow.holds Try.pinned (OpenSpec.upto declChansSpec)

/-- 'lariatlaw12.DeclCells', WHERE WHAT IT READS IS OF BULK AT MOST 1048576: true; the input reads as it did. -/
def declCellsUptoRow : OpenClaim := { program := "ytjciamefkacchaa", sum := "d4c131462b56fc11d7c10b63b0721ee4116f2d58d8dbde999ee4c35eb0fec254", func := "lariat/lariatlaw12.DeclCells", spec := "declCells", unfollowed := true, recurses := true, apart := false, narrowed := true }
def DeclCellsUptoSaid : Prop := declCellsUptoRow.holds Try.pinned (OpenSpec.upto declCellsSpec)

/-- 'lariatlaw12.DeclNames', WHERE WHAT IT READS IS OF BULK AT MOST 1048576: true; the input reads as it did. -/
def declNamesUptoRow : OpenClaim := { program := "ytjciamefkacchaa", sum := "d4c131462b56fc11d7c10b63b0721ee4116f2d58d8dbde999ee4c35eb0fec254", func := "lariat/lariatlaw12.DeclNames", spec := "declNames", unfollowed := true, recurses := true, apart := false, narrowed := true }
def DeclNamesUptoSaid : Prop := declNamesUptoRow.holds Try.pinned (OpenSpec.upto declNamesSpec)

/-- 'lariatlaw12.DeclParts', WHERE WHAT IT READS IS OF BULK AT MOST 1048576: true; the input reads as it did. -/
def declPartsUptoRow : OpenClaim := { program := "ytjciamefkacchaa", sum := "d4c131462b56fc11d7c10b63b0721ee4116f2d58d8dbde999ee4c35eb0fec254", func := "lariat/lariatlaw12.DeclParts", spec := "declParts", unfollowed := true, recurses := true, apart := false, narrowed := true }
def DeclPartsUptoSaid : Prop := declPartsUptoRow.holds Try.pinned (OpenSpec.upto declPartsSpec)

end Rows
end Go.Proofs.Ytjciamefkacchaa
