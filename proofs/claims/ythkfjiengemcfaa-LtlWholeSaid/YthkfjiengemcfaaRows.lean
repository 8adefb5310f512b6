/-
  No cell of these rows narrows 'for every input' (looked for: loops, veiled, ifaces, maps, wideKeys, modest, calm, conditions, laid).
  DERIVED. THE GIVEN ROWS OF THIS SEAT. 5 by the template 'for every input the law returns true; each argument reads behind the call as it read before'; 0 by the template 'total and deterministic' (their statements: YthkfjiengemcfaaTotals.lean).
  GIVEN WITH THE SEED: the statements are not yours to turn. If you find one false, say at which input.
  Laid BY PROGRAM, IN A SANDBOX (cutbox-rows.mjs): the forced cells as the released guide's own fill.sh prints them over the translation 9d117af5871112a6… (all of the seat's roots in one cut). By AI agents, Wed Nov 11 2026. No macro, syntax, notation, axiom, sorry.
-/
import Derived.Test.YthkfjiengemcfaaChecked
import GoSem.Claim
import GoSem.ClaimJoined
import GoSem.ClaimMapViews
import Derived.JoinedTies
import Derived.KernelRfl
namespace Go.Proofs.Ythkfjiengemcfaa
/- THE CELL 'sum', in the pinned program and in every row, IS THE sha256 OF THE DUMP (.gsa) THAT YthkfjiengemcfaaProg.lean LOADS. Nothing in Lean hashes anything: it is a label: what it is worth is what the hold of that sum in a sandbox is worth. -/
noncomputable def Try.pinned : Pinned := { name := "ythkfjiengemcfaa", sum := "9d117af5871112a646a0fb3842f1f5ecca45ec722ae2ec50079e90dbe31191e7", checked := Try.checked }
namespace Rows
def none {H : Type} : Left H := { results := [], args := [] }

/-- 'lariatlaw23.LtlChecks': WHATEVER THE INPUT: true; the input reads as it did. -/
def ltlChecksSpec : ChangeSpec := { name := "ltlChecks", fn := fun _ => fun
  | [d] => { results := [.lit (.bool true)], args := [d] }
  | _ => none }
def ltlChecksRow : OpenClaim := { program := "ythkfjiengemcfaa", sum := "9d117af5871112a646a0fb3842f1f5ecca45ec722ae2ec50079e90dbe31191e7", func := "lariat/lariatlaw23.LtlChecks", spec := "ltlChecks", unfollowed := true, recurses := true, apart := false }
def LtlChecksSaid : Prop := ltlChecksRow.holds Try.pinned (OpenSpec.ofChange ltlChecksSpec)

/-- ITS FALSE NEIGHBOUR: 'it returns false'. Refute it at one input. -/
def ltlChecksWrong : ChangeSpec := { name := "ltlChecks", fn := fun _ => fun
  | [d] => { results := [.lit (.bool false)], args := [d] }
  | _ => none }
def LtlChecksWrongFalsely : Prop := ltlChecksRow.holds Try.pinned (OpenSpec.ofChange ltlChecksWrong)

/-- 'lariatlaw23.LtlTells': WHATEVER THE INPUT: true; the input reads as it did. -/
def ltlTellsSpec : ChangeSpec := { name := "ltlTells", fn := fun _ => fun
  | [d] => { results := [.lit (.bool true)], args := [d] }
  | _ => none }
def ltlTellsRow : OpenClaim := { program := "ythkfjiengemcfaa", sum := "9d117af5871112a646a0fb3842f1f5ecca45ec722ae2ec50079e90dbe31191e7", func := "lariat/lariatlaw23.LtlTells", spec := "ltlTells", unfollowed := true, recurses := true, apart := false }
def LtlTellsSaid : Prop := ltlTellsRow.holds Try.pinned (OpenSpec.ofChange ltlTellsSpec)

/-- ITS FALSE NEIGHBOUR: 'it returns false'. Refute it at one input. -/
def ltlTellsWrong : ChangeSpec := { name := "ltlTells", fn := fun _ => fun
  | [d] => { results := [.lit (.bool false)], args := [d] }
  | _ => none }
def LtlTellsWrongFalsely : Prop := ltlTellsRow.holds Try.pinned (OpenSpec.ofChange ltlTellsWrong)

/-- 'lariatlaw23.LtlParts': WHATEVER THE INPUT: true; the input reads as it did. -/
def ltlPartsSpec : ChangeSpec := { name := "ltlParts", fn := fun _ => fun
  | [d1, d2] => { results := [.lit (.bool true)], args := [d1, d2] }
  | _ => none }
def ltlPartsRow : OpenClaim := { program := "ythkfjiengemcfaa", sum := "9d117af5871112a646a0fb3842f1f5ecca45ec722ae2ec50079e90dbe31191e7", func := "lariat/lariatlaw23.LtlParts", spec := "ltlParts", unfollowed := true, recurses := true, apart := false }
def LtlPartsSaid : Prop := ltlPartsRow.holds Try.pinned (OpenSpec.ofChange ltlPartsSpec)

/-- ITS FALSE NEIGHBOUR: 'it returns false'. Refute it at one input. -/
def ltlPartsWrong : ChangeSpec := { name := "ltlParts", fn := fun _ => fun
  | [d1, d2] => { results := [.lit (.bool false)], args := [d1, d2] }
  | _ => none }
def LtlPartsWrongFalsely : Prop := ltlPartsRow.holds Try.pinned (OpenSpec.ofChange ltlPartsWrong)

/-- 'lariatlaw23.LtlWhole': WHATEVER THE INPUT: true; the input reads as it did. -/
def ltlWholeSpec : ChangeSpec := { name := "ltlWhole", fn := fun _ => fun
  | [d] => { results := [.lit (.bool true)], args := [d] }
  | _ => none }
def ltlWholeRow : OpenClaim := { program := "ythkfjiengemcfaa", sum := "9d117af5871112a646a0fb3842f1f5ecca45ec722ae2ec50079e90dbe31191e7", func := "lariat/lariatlaw23.LtlWhole", spec := "ltlWhole", unfollowed := true, recurses := true, apart := false }
def LtlWholeSaid : Prop := ltlWholeRow.holds Try.pinned (OpenSpec.ofChange ltlWholeSpec)

/-- ITS FALSE NEIGHBOUR: 'it returns false'. Refute it at one input. -/
def ltlWholeWrong : ChangeSpec := { name := "ltlWhole", fn := fun _ => fun
  | [d] => { results := [.lit (.bool false)], args := [d] }
  | _ => none }
def LtlWholeWrongFalsely : Prop := ltlWholeRow.holds Try.pinned (OpenSpec.ofChange ltlWholeWrong)

/-- 'lariatlaw23.LtlNot': WHATEVER THE INPUT: true; the input reads as it did. -/
def ltlNotSpec : ChangeSpec := { name := "ltlNot", fn := fun _ => fun
  | [d] => { results := [.lit (.bool true)], args := [d] }
  | _ => none }
def ltlNotRow : OpenClaim := { program := "ythkfjiengemcfaa", sum := "9d117af5871112a646a0fb3842f1f5ecca45ec722ae2ec50079e90dbe31191e7", func := "lariat/lariatlaw23.LtlNot", spec := "ltlNot", unfollowed := true, recurses := true, apart := false }
def LtlNotSaid : Prop := ltlNotRow.holds Try.pinned (OpenSpec.ofChange ltlNotSpec)

/-- ITS FALSE NEIGHBOUR: 'it returns false'. Refute it at one input. -/
def ltlNotWrong : ChangeSpec := { name := "ltlNot", fn := fun _ => fun
  | [d] => { results := [.lit (.bool false)], args := [d] }
  | _ => none }
def LtlNotWrongFalsely : Prop := ltlNotRow.holds Try.pinned (OpenSpec.ofChange ltlNotWrong)

/- THE SECOND FORM. 'bulk': how many values and letters a reading holds, each counted each time it is reached (what is shared counts as often as it is met; a slice's spare places count too). A statement '..UptoSaid' is the law's where the arguments, and the package variables that the reading takes, are together of bulk at most 1048576: NARROWER than '..Said'. Prove '..Said' where nothing that the law and all that it calls make is longer than what came in: it says more and counts as full. Else prove '..UptoSaid'. A law counts once. -/
mutual
def uptoBulk {H : Type} : DataW H → Nat
  | .lit (.string bytes) => bytes.length + 1
  | .lit _ => 1
  | .nil => 1
  | .ptr d => uptoBulk d + 1
  | .slice elems spare => uptoBulkAll elems + uptoBulkAll spare + 1
  | .agg parts => uptoBulkAll parts + 1
  | .iface _ d => uptoBulk d + 1
  | .map entries => uptoBulkEntries entries + 1
  | .held _ => 1
def uptoBulkAll {H : Type} : List (DataW H) → Nat
  | [] => 0
  | d :: r => uptoBulk d + uptoBulkAll r
def uptoBulkEntries {H : Type} : List (Lit × DataW H) → Nat
  | [] => 0
  | x :: r => uptoBulkEntry x + uptoBulkEntries r
def uptoBulkEntry {H : Type} : Lit × DataW H → Nat
  | (.string bytes, d) => bytes.length + uptoBulk d + 1
  | (_, d) => uptoBulk d + 1
 end
def uptoSmall : (H : Type) → List (DataW H) → Bool := fun _ ds => decide (uptoBulkAll ds ≤ 1048576)
def OpenSpec.upto (s : _root_.Go.ChangeSpec) : _root_.Go.OpenSpec := { _root_.Go.OpenSpec.ofChange s with cond := some uptoSmall }

/-- 'lariatlaw23.LtlChecks', WHERE WHAT IT READS IS OF BULK AT MOST 1048576: true; the input reads as it did. -/
def ltlChecksUptoRow : OpenClaim := { program := "ythkfjiengemcfaa", sum := "9d117af5871112a646a0fb3842f1f5ecca45ec722ae2ec50079e90dbe31191e7", func := "lariat/lariatlaw23.LtlChecks", spec := "ltlChecks", unfollowed := true, recurses := true, apart := false, narrowed := true }
def LtlChecksUptoSaid : Prop := ltlChecksUptoRow.holds Try.pinned (OpenSpec.upto ltlChecksSpec)

/-- 'lariatlaw23.LtlTells', WHERE WHAT IT READS IS OF BULK AT MOST 1048576: true; the input reads as it did. -/
def ltlTellsUptoRow : OpenClaim := { program := "ythkfjiengemcfaa", sum := "9d117af5871112a646a0fb3842f1f5ecca45ec722ae2ec50079e90dbe31191e7", func := "lariat/lariatlaw23.LtlTells", spec := "ltlTells", unfollowed := true, recurses := true, apart := false, narrowed := true }
def LtlTellsUptoSaid : Prop := ltlTellsUptoRow.holds Try.pinned (OpenSpec.upto ltlTellsSpec)

/-- 'lariatlaw23.LtlParts', WHERE WHAT IT READS IS OF BULK AT MOST 1048576: true; the input reads as it did. -/
def ltlPartsUptoRow : OpenClaim := { program := "ythkfjiengemcfaa", sum := "9d117af5871112a646a0fb3842f1f5ecca45ec722ae2ec50079e90dbe31191e7", func := "lariat/lariatlaw23.LtlParts", spec := "ltlParts", unfollowed := true, recurses := true, apart := false, narrowed := true }
def LtlPartsUptoSaid : Prop := ltlPartsUptoRow.holds Try.pinned (OpenSpec.upto ltlPartsSpec)

/-- 'lariatlaw23.LtlWhole', WHERE WHAT IT READS IS OF BULK AT MOST 1048576: true; the input reads as it did. -/
def ltlWholeUptoRow : OpenClaim := { program := "ythkfjiengemcfaa", sum := "9d117af5871112a646a0fb3842f1f5ecca45ec722ae2ec50079e90dbe31191e7", func := "lariat/lariatlaw23.LtlWhole", spec := "ltlWhole", unfollowed := true, recurses := true, apart := false, narrowed := true }
def LtlWholeUptoSaid : Prop := ltlWholeUptoRow.holds Try.pinned (OpenSpec.upto ltlWholeSpec)

/-- 'lariatlaw23.LtlNot', WHERE WHAT IT READS IS OF BULK AT MOST 1048576: true; the input reads as it did. -/
def ltlNotUptoRow : OpenClaim := { program := "ythkfjiengemcfaa", sum := "9d117af5871112a646a0fb3842f1f5ecca45ec722ae2ec50079e90dbe31191e7", func := "lariat/lariatlaw23.LtlNot", spec := "ltlNot", unfollowed := true, recurses := true, apart := false, narrowed := true }
def LtlNotUptoSaid : Prop := ltlNotUptoRow.holds Try.pinned (OpenSpec.upto ltlNotSpec)

end Rows
end Go.Proofs.Ythkfjiengemcfaa
