/-
  No cell of these rows narrows 'for every input' (looked for: loops, veiled, ifaces, maps, wideKeys, modest, calm, conditions, laid).
  DERIVED. THE GIVEN ROWS OF THIS SEAT. 12 by the template 'for every input the law returns true; each argument reads behind the call as it read before'; 0 by the template 'total and deterministic' (their statements: YtnfiohekdbjgoaaTotals.lean).
  GIVEN WITH THE SEED: the statements are not yours to turn. If you find one false, say at which input.
  Laid BY PROGRAM, IN A SANDBOX (cutbox-rows.mjs): the forced cells as the released guide's own fill.sh prints them over the translation 583e5e60dd0dd65e… (all of the seat's roots in one cut). By AI agents, Wed Nov 11 2026. No macro, syntax, notation, axiom, sorry.
-/
import Derived.Test.YtnfiohekdbjgoaaChecked
import GoSem.Claim
import GoSem.ClaimJoined
import GoSem.ClaimMapViews
import Derived.JoinedTies
import Derived.KernelRfl
namespace Go.Proofs.Ytnfiohekdbjgoaa
/- THE CELL 'sum', in the pinned program and in every row, IS THE sha256 OF THE DUMP (.gsa) THAT YtnfiohekdbjgoaaProg.lean LOADS. Nothing in Lean hashes anything: it is a label: what it is worth is what the hold of that sum in a sandbox is worth. -/
noncomputable def Try.pinned : Pinned := { name := "ytnfiohekdbjgoaa", sum := "583e5e60dd0dd65e72d793043adf4f720eb12342d22bc4f502939c4a2eb7d348", checked := Try.checked }
namespace Rows
def none {H : Type} : Left H := { results := [], args := [] }

/-- 'lariatlaw06.GraphChecks': WHATEVER THE INPUT: true; the input reads as it did. -/
def graphChecksSpec : ChangeSpec := { name := "graphChecks", fn := fun _ => fun
  | [d1, d2] => { results := [.lit (.bool true)], args := [d1, d2] }
  | _ => none }
def graphChecksRow : OpenClaim := { program := "ytnfiohekdbjgoaa", sum := "583e5e60dd0dd65e72d793043adf4f720eb12342d22bc4f502939c4a2eb7d348", func := "lariat/lariatlaw06.GraphChecks", spec := "graphChecks", unfollowed := true, recurses := true, apart := false }
def GraphChecksSaid : Prop := graphChecksRow.holds Try.pinned (OpenSpec.ofChange graphChecksSpec)

/-- ITS FALSE NEIGHBOUR: 'it returns false'. Refute it at one input. -/
def graphChecksWrong : ChangeSpec := { name := "graphChecks", fn := fun _ => fun
  | [d1, d2] => { results := [.lit (.bool false)], args := [d1, d2] }
  | _ => none }
def GraphChecksWrongFalsely : Prop := graphChecksRow.holds Try.pinned (OpenSpec.ofChange graphChecksWrong)

/-- 'lariatlaw06.GraphMany': WHATEVER THE INPUT: true; the input reads as it did. -/
def graphManySpec : ChangeSpec := { name := "graphMany", fn := fun _ => fun
  | [d] => { results := [.lit (.bool true)], args := [d] }
  | _ => none }
def graphManyRow : OpenClaim := { program := "ytnfiohekdbjgoaa", sum := "583e5e60dd0dd65e72d793043adf4f720eb12342d22bc4f502939c4a2eb7d348", func := "lariat/lariatlaw06.GraphMany", spec := "graphMany", unfollowed := true, recurses := true, apart := false }
def GraphManySaid : Prop := graphManyRow.holds Try.pinned (OpenSpec.ofChange graphManySpec)

/-- ITS FALSE NEIGHBOUR: 'it returns false'. Refute it at one input. -/
def graphManyWrong : ChangeSpec := { name := "graphMany", fn := fun _ => fun
  | [d] => { results := [.lit (.bool false)], args := [d] }
  | _ => none }
def GraphManyWrongFalsely : Prop := graphManyRow.holds Try.pinned (OpenSpec.ofChange graphManyWrong)

/-- 'lariatlaw06.GraphReaches': WHATEVER THE INPUT: true; the input reads as it did. -/
def graphReachesSpec : ChangeSpec := { name := "graphReaches", fn := fun _ => fun
  | [d1, d2, d3] => { results := [.lit (.bool true)], args := [d1, d2, d3] }
  | _ => none }
def graphReachesRow : OpenClaim := { program := "ytnfiohekdbjgoaa", sum := "583e5e60dd0dd65e72d793043adf4f720eb12342d22bc4f502939c4a2eb7d348", func := "lariat/lariatlaw06.GraphReaches", spec := "graphReaches", unfollowed := true, recurses := true, apart := false }
def GraphReachesSaid : Prop := graphReachesRow.holds Try.pinned (OpenSpec.ofChange graphReachesSpec)

/-- ITS FALSE NEIGHBOUR: 'it returns false'. Refute it at one input. -/
def graphReachesWrong : ChangeSpec := { name := "graphReaches", fn := fun _ => fun
  | [d1, d2, d3] => { results := [.lit (.bool false)], args := [d1, d2, d3] }
  | _ => none }
def GraphReachesWrongFalsely : Prop := graphReachesRow.holds Try.pinned (OpenSpec.ofChange graphReachesWrong)

/-- 'lariatlaw06.GraphTurns': WHATEVER THE INPUT: true; the input reads as it did. -/
def graphTurnsSpec : ChangeSpec := { name := "graphTurns", fn := fun _ => fun
  | [d] => { results := [.lit (.bool true)], args := [d] }
  | _ => none }
def graphTurnsRow : OpenClaim := { program := "ytnfiohekdbjgoaa", sum := "583e5e60dd0dd65e72d793043adf4f720eb12342d22bc4f502939c4a2eb7d348", func := "lariat/lariatlaw06.GraphTurns", spec := "graphTurns", unfollowed := true, recurses := true, apart := false }
def GraphTurnsSaid : Prop := graphTurnsRow.holds Try.pinned (OpenSpec.ofChange graphTurnsSpec)

/-- ITS FALSE NEIGHBOUR: 'it returns false'. Refute it at one input. -/
def graphTurnsWrong : ChangeSpec := { name := "graphTurns", fn := fun _ => fun
  | [d] => { results := [.lit (.bool false)], args := [d] }
  | _ => none }
def GraphTurnsWrongFalsely : Prop := graphTurnsRow.holds Try.pinned (OpenSpec.ofChange graphTurnsWrong)

/-- 'lariatlaw06.GraphPaths': WHATEVER THE INPUT: true; the input reads as it did. -/
def graphPathsSpec : ChangeSpec := { name := "graphPaths", fn := fun _ => fun
  | [d1, d2, d3] => { results := [.lit (.bool true)], args := [d1, d2, d3] }
  | _ => none }
def graphPathsRow : OpenClaim := { program := "ytnfiohekdbjgoaa", sum := "583e5e60dd0dd65e72d793043adf4f720eb12342d22bc4f502939c4a2eb7d348", func := "lariat/lariatlaw06.GraphPaths", spec := "graphPaths", unfollowed := true, recurses := true, apart := false }
def GraphPathsSaid : Prop := graphPathsRow.holds Try.pinned (OpenSpec.ofChange graphPathsSpec)

/-- ITS FALSE NEIGHBOUR: 'it returns false'. Refute it at one input. -/
def graphPathsWrong : ChangeSpec := { name := "graphPaths", fn := fun _ => fun
  | [d1, d2, d3] => { results := [.lit (.bool false)], args := [d1, d2, d3] }
  | _ => none }
def GraphPathsWrongFalsely : Prop := graphPathsRow.holds Try.pinned (OpenSpec.ofChange graphPathsWrong)

/-- 'lariatlaw06.GraphDuals': WHATEVER THE INPUT: true; the input reads as it did. -/
def graphDualsSpec : ChangeSpec := { name := "graphDuals", fn := fun _ => fun
  | [d1, d2, d3] => { results := [.lit (.bool true)], args := [d1, d2, d3] }
  | _ => none }
def graphDualsRow : OpenClaim := { program := "ytnfiohekdbjgoaa", sum := "583e5e60dd0dd65e72d793043adf4f720eb12342d22bc4f502939c4a2eb7d348", func := "lariat/lariatlaw06.GraphDuals", spec := "graphDuals", unfollowed := true, recurses := true, apart := false }
def GraphDualsSaid : Prop := graphDualsRow.holds Try.pinned (OpenSpec.ofChange graphDualsSpec)

/-- ITS FALSE NEIGHBOUR: 'it returns false'. Refute it at one input. -/
def graphDualsWrong : ChangeSpec := { name := "graphDuals", fn := fun _ => fun
  | [d1, d2, d3] => { results := [.lit (.bool false)], args := [d1, d2, d3] }
  | _ => none }
def GraphDualsWrongFalsely : Prop := graphDualsRow.holds Try.pinned (OpenSpec.ofChange graphDualsWrong)

/-- 'lariatlaw06.GraphSteps': WHATEVER THE INPUT: true; the input reads as it did. -/
def graphStepsSpec : ChangeSpec := { name := "graphSteps", fn := fun _ => fun
  | [d1, d2, d3] => { results := [.lit (.bool true)], args := [d1, d2, d3] }
  | _ => none }
def graphStepsRow : OpenClaim := { program := "ytnfiohekdbjgoaa", sum := "583e5e60dd0dd65e72d793043adf4f720eb12342d22bc4f502939c4a2eb7d348", func := "lariat/lariatlaw06.GraphSteps", spec := "graphSteps", unfollowed := true, recurses := true, apart := false }
def GraphStepsSaid : Prop := graphStepsRow.holds Try.pinned (OpenSpec.ofChange graphStepsSpec)

/-- ITS FALSE NEIGHBOUR: 'it returns false'. Refute it at one input. -/
def graphStepsWrong : ChangeSpec := { name := "graphSteps", fn := fun _ => fun
  | [d1, d2, d3] => { results := [.lit (.bool false)], args := [d1, d2, d3] }
  | _ => none }
def GraphStepsWrongFalsely : Prop := graphStepsRow.holds Try.pinned (OpenSpec.ofChange graphStepsWrong)

/-- 'lariatlaw07.SccOf': WHATEVER THE INPUT: true; the input reads as it did. -/
def sccOfSpec : ChangeSpec := { name := "sccOf", fn := fun _ => fun
  | [d] => { results := [.lit (.bool true)], args := [d] }
  | _ => none }
def sccOfRow : OpenClaim := { program := "ytnfiohekdbjgoaa", sum := "583e5e60dd0dd65e72d793043adf4f720eb12342d22bc4f502939c4a2eb7d348", func := "lariat/lariatlaw07.SccOf", spec := "sccOf", unfollowed := true, recurses := true, apart := false }
def SccOfSaid : Prop := sccOfRow.holds Try.pinned (OpenSpec.ofChange sccOfSpec)

/-- ITS FALSE NEIGHBOUR: 'it returns false'. Refute it at one input. -/
def sccOfWrong : ChangeSpec := { name := "sccOf", fn := fun _ => fun
  | [d] => { results := [.lit (.bool false)], args := [d] }
  | _ => none }
def SccOfWrongFalsely : Prop := sccOfRow.holds Try.pinned (OpenSpec.ofChange sccOfWrong)

/-- 'lariatlaw07.SccParts': WHATEVER THE INPUT: true; the input reads as it did. -/
def sccPartsSpec : ChangeSpec := { name := "sccParts", fn := fun _ => fun
  | [d] => { results := [.lit (.bool true)], args := [d] }
  | _ => none }
def sccPartsRow : OpenClaim := { program := "ytnfiohekdbjgoaa", sum := "583e5e60dd0dd65e72d793043adf4f720eb12342d22bc4f502939c4a2eb7d348", func := "lariat/lariatlaw07.SccParts", spec := "sccParts", unfollowed := true, recurses := true, apart := false }
def SccPartsSaid : Prop := sccPartsRow.holds Try.pinned (OpenSpec.ofChange sccPartsSpec)

/-- ITS FALSE NEIGHBOUR: 'it returns false'. Refute it at one input. -/
def sccPartsWrong : ChangeSpec := { name := "sccParts", fn := fun _ => fun
  | [d] => { results := [.lit (.bool false)], args := [d] }
  | _ => none }
def SccPartsWrongFalsely : Prop := sccPartsRow.holds Try.pinned (OpenSpec.ofChange sccPartsWrong)

/-- 'lariatlaw07.SccCyclic': WHATEVER THE INPUT: true; the input reads as it did. -/
def sccCyclicSpec : ChangeSpec := { name := "sccCyclic", fn := fun _ => fun
  | [d1, d2] => { results := [.lit (.bool true)], args := [d1, d2] }
  | _ => none }
def sccCyclicRow : OpenClaim := { program := "ytnfiohekdbjgoaa", sum := "583e5e60dd0dd65e72d793043adf4f720eb12342d22bc4f502939c4a2eb7d348", func := "lariat/lariatlaw07.SccCyclic", spec := "sccCyclic", unfollowed := true, recurses := true, apart := false }
def SccCyclicSaid : Prop := sccCyclicRow.holds Try.pinned (OpenSpec.ofChange sccCyclicSpec)

/-- ITS FALSE NEIGHBOUR: 'it returns false'. Refute it at one input. -/
def sccCyclicWrong : ChangeSpec := { name := "sccCyclic", fn := fun _ => fun
  | [d1, d2] => { results := [.lit (.bool false)], args := [d1, d2] }
  | _ => none }
def SccCyclicWrongFalsely : Prop := sccCyclicRow.holds Try.pinned (OpenSpec.ofChange sccCyclicWrong)

/-- 'lariatlaw07.SccLive': WHATEVER THE INPUT: true; the input reads as it did. -/
def sccLiveSpec : ChangeSpec := { name := "sccLive", fn := fun _ => fun
  | [d] => { results := [.lit (.bool true)], args := [d] }
  | _ => none }
def sccLiveRow : OpenClaim := { program := "ytnfiohekdbjgoaa", sum := "583e5e60dd0dd65e72d793043adf4f720eb12342d22bc4f502939c4a2eb7d348", func := "lariat/lariatlaw07.SccLive", spec := "sccLive", unfollowed := true, recurses := true, apart := false }
def SccLiveSaid : Prop := sccLiveRow.holds Try.pinned (OpenSpec.ofChange sccLiveSpec)

/-- ITS FALSE NEIGHBOUR: 'it returns false'. Refute it at one input. -/
def sccLiveWrong : ChangeSpec := { name := "sccLive", fn := fun _ => fun
  | [d] => { results := [.lit (.bool false)], args := [d] }
  | _ => none }
def SccLiveWrongFalsely : Prop := sccLiveRow.holds Try.pinned (OpenSpec.ofChange sccLiveWrong)

/-- 'lariatlaw07.SccJoins': WHATEVER THE INPUT: true; the input reads as it did. -/
def sccJoinsSpec : ChangeSpec := { name := "sccJoins", fn := fun _ => fun
  | [d] => { results := [.lit (.bool true)], args := [d] }
  | _ => none }
def sccJoinsRow : OpenClaim := { program := "ytnfiohekdbjgoaa", sum := "583e5e60dd0dd65e72d793043adf4f720eb12342d22bc4f502939c4a2eb7d348", func := "lariat/lariatlaw07.SccJoins", spec := "sccJoins", unfollowed := true, recurses := true, apart := false }
def SccJoinsSaid : Prop := sccJoinsRow.holds Try.pinned (OpenSpec.ofChange sccJoinsSpec)

/-- ITS FALSE NEIGHBOUR: 'it returns false'. Refute it at one input. -/
def sccJoinsWrong : ChangeSpec := { name := "sccJoins", fn := fun _ => fun
  | [d] => { results := [.lit (.bool false)], args := [d] }
  | _ => none }
def SccJoinsWrongFalsely : Prop := sccJoinsRow.holds Try.pinned (OpenSpec.ofChange sccJoinsWrong)

/- THE SECOND FORM. 'bulk': how many values and letters a reading holds, each counted each time it is reached (what is shared counts as often as it is met; a slice's spare places count too). A statement '..UptoSaid' is the law's where the arguments, and the package variables that the reading takes, are together of bulk at most 1048576: NARROWER than '..Said'. Prove '..Said' where nothing that the law and all that it calls make is longer than what came in: it says more and counts as full. Else prove '..UptoSaid'. A law counts once. -/
mutual
def uptoBulk {H : Type} : DataW H → Nat
  | .lit (.string bytes) => bytes.length + 1
  | .lit _ => 1
  | .nil => 1
  | .ptr d => uptoBulk d + 1
  | .slice elems spare => uptoBulkAll elems + uptoBulkAll spare + 1
  | .agg parts => uptoBulkAll parts + 1
  | .iface _ d => uptoBulk d + 1
  | .map entries => uptoBulkEntries entries + 1
  | .held _ => 1
def uptoBulkAll {H : Type} : List (DataW H) → Nat
  | [] => 0
  | d :: r => uptoBulk d + uptoBulkAll r
def uptoBulkEntries {H : Type} : List (Lit × DataW H) → Nat
  | [] => 0
  | x :: r => uptoBulkEntry x + uptoBulkEntries r
def uptoBulkEntry {H : Type} : Lit × DataW H → Nat
  | (.string bytes, d) => bytes.length + uptoBulk d + 1
  | (_, d) => uptoBulk d + 1
 end
def uptoSmall : (H : Type) → List (DataW H) → Bool := fun _ ds => decide (uptoBulkAll ds ≤ 1048576)
def OpenSpec.upto (s : _root_.Go.ChangeSpec) : _root_.Go.OpenSpec := { _root_.Go.OpenSpec.ofChange s with cond := some uptoSmall }

/-- 'lariatlaw06.GraphChecks', WHERE WHAT IT READS IS OF BULK AT MOST 1048576: true; the input reads as it did. -/
def graphChecksUptoRow : OpenClaim := { program := "ytnfiohekdbjgoaa", sum := "583e5e60dd0dd65e72d793043adf4f720eb12342d22bc4f502939c4a2eb7d348", func := "lariat/lariatlaw06.GraphChecks", spec := "graphChecks", unfollowed := true, recurses := true, apart := false, narrowed := true }
def GraphChecksUptoSaid : Prop := graphChecksUptoRow.holds Try.pinned (OpenSpec.upto graphChecksSpec)

/-- 'lariatlaw06.GraphMany', WHERE WHAT IT READS IS OF BULK AT MOST 1048576: true; the input reads as it did. -/
def graphManyUptoRow : OpenClaim := { program := "ytnfiohekdbjgoaa", sum := "583e5e60dd0dd65e72d793043adf4f720eb12342d22bc4f502939c4a2eb7d348", func := "lariat/lariatlaw06.GraphMany", spec := "graphMany", unfollowed := true, recurses := true, apart := false, narrowed := true }
def GraphManyUptoSaid : Prop := graphManyUptoRow.holds Try.pinned (OpenSpec.upto graphManySpec)

/-- 'lariatlaw06.GraphReaches', WHERE WHAT IT READS IS OF BULK AT MOST 1048576: true; the input reads as it did. -/
def graphReachesUptoRow : OpenClaim := { program := "ytnfiohekdbjgoaa", sum := "583e5e60dd0dd65e72d793043adf4f720eb12342d22bc4f502939c4a2eb7d348", func := "lariat/lariatlaw06.GraphReaches", spec := "graphReaches", unfollowed := true, recurses := true, apart := false, narrowed := true }
def GraphReachesUptoSaid : Prop := graphReachesUptoRow.holds Try.pinned (OpenSpec.upto graphReachesSpec)

/-- 'lariatlaw06.GraphTurns', WHERE WHAT IT READS IS OF BULK AT MOST 1048576: true; the input reads as it did. -/
def graphTurnsUptoRow : OpenClaim := { program := "ytnfiohekdbjgoaa", sum := "583e5e60dd0dd65e72d793043adf4f720eb12342d22bc4f502939c4a2eb7d348", func := "lariat/lariatlaw06.GraphTurns", spec := "graphTurns", unfollowed := true, recurses := true, apart := false, narrowed := true }
def GraphTurnsUptoSaid : Prop := graphTurnsUptoRow.holds Try.pinned (OpenSpec.upto graphTurnsSpec)

/-- 'lariatlaw06.GraphPaths', WHERE WHAT IT READS IS OF BULK AT MOST 1048576: true; the input reads as it did. -/
def graphPathsUptoRow : OpenClaim := { program := "ytnfiohekdbjgoaa", sum := "583e5e60dd0dd65e72d793043adf4f720eb12342d22bc4f502939c4a2eb7d348", func := "lariat/lariatlaw06.GraphPaths", spec := "graphPaths", unfollowed := true, recurses := true, apart := false, narrowed := true }
def GraphPathsUptoSaid : Prop := graphPathsUptoRow.holds Try.pinned (OpenSpec.upto graphPathsSpec)

/-- 'lariatlaw06.GraphDuals', WHERE WHAT IT READS IS OF BULK AT MOST 1048576: true; the input reads as it did. -/
def graphDualsUptoRow : OpenClaim := { program := "ytnfiohekdbjgoaa", sum := "583e5e60dd0dd65e72d793043adf4f720eb12342d22bc4f502939c4a2eb7d348", func := "lariat/lariatlaw06.GraphDuals", spec := "graphDuals", unfollowed := true, recurses := true, apart := false, narrowed := true }
def GraphDualsUptoSaid : Prop := graphDualsUptoRow.holds Try.pinned (OpenSpec.upto graphDualsSpec)

/-- 'lariatlaw06.GraphSteps', WHERE WHAT IT READS IS OF BULK AT MOST 1048576: true; the input reads as it did. -/
def graphStepsUptoRow : OpenClaim := { program := "ytnfiohekdbjgoaa", sum := "583e5e60dd0dd65e72d793043adf4f720eb12342d22bc4f502939c4a2eb7d348", func := "lariat/lariatlaw06.GraphSteps", spec := "graphSteps", unfollowed := true, recurses := true, apart := false, narrowed := true }
def GraphStepsUptoSaid : Prop := graphStepsUptoRow.holds Try.pinned (OpenSpec.upto graphStepsSpec)

/-- 'lariatlaw07.SccOf', WHERE WHAT IT READS IS OF BULK AT MOST 1048576: true; the input reads as it did. -/
def sccOfUptoRow : OpenClaim := { program := "ytnfiohekdbjgoaa", sum := "583e5e60dd0dd65e72d793043adf4f720eb12342d22bc4f502939c4a2eb7d348", func := "lariat/lariatlaw07.SccOf", spec := "sccOf", unfollowed := true, recurses := true, apart := false, narrowed := true }
def SccOfUptoSaid : Prop := sccOfUptoRow.holds Try.pinned (OpenSpec.upto sccOfSpec)

/-- 'lariatlaw07.SccParts', WHERE WHAT IT READS IS OF BULK AT MOST 1048576: true; the input reads as it did. -/
def sccPartsUptoRow : OpenClaim := { program := "ytnfiohekdbjgoaa", sum := "583e5e60dd0dd65e72d793043adf4f720eb12342d22bc4f502939c4a2eb7d348", func := "lariat/lariatlaw07.SccParts", spec := "sccParts", unfollowed := true, recurses := true, apart := false, narrowed := true }
def SccPartsUptoSaid : Prop := sccPartsUptoRow.holds Try.pinned (OpenSpec.upto sccPartsSpec)

/-- 'lariatlaw07.SccCyclic', WHERE WHAT IT READS IS OF BULK AT MOST 1048576: true; the input reads as it did. -/
def sccCyclicUptoRow : OpenClaim := { program := "ytnfiohekdbjgoaa", sum := "583e5e60dd0dd65e72d793043adf4f720eb12342d22bc4f502939c4a2eb7d348", func := "lariat/lariatlaw07.SccCyclic", spec := "sccCyclic", unfollowed := true, recurses := true, apart := false, narrowed := true }
def SccCyclicUptoSaid : Prop := sccCyclicUptoRow.holds Try.pinned (OpenSpec.upto sccCyclicSpec)

/-- 'lariatlaw07.SccLive', WHERE WHAT IT READS IS OF BULK AT MOST 1048576: true; the input reads as it did. -/
def sccLiveUptoRow : OpenClaim := { program := "ytnfiohekdbjgoaa", sum := "583e5e60dd0dd65e72d793043adf4f720eb12342d22bc4f502939c4a2eb7d348", func := "lariat/lariatlaw07.SccLive", spec := "sccLive", unfollowed := true, recurses := true, apart := false, narrowed := true }
def SccLiveUptoSaid : Prop := sccLiveUptoRow.holds Try.pinned (OpenSpec.upto sccLiveSpec)

/-- 'lariatlaw07.SccJoins', WHERE WHAT IT READS IS OF BULK AT MOST 1048576: true; the input reads as it did. -/
def sccJoinsUptoRow : OpenClaim := { program := "ytnfiohekdbjgoaa", sum := "583e5e60dd0dd65e72d793043adf4f720eb12342d22bc4f502939c4a2eb7d348", func := "lariat/lariatlaw07.SccJoins", spec := "sccJoins", unfollowed := true, recurses := true, apart := false, narrowed := true }
def SccJoinsUptoSaid : Prop := sccJoinsUptoRow.holds Try.pinned (OpenSpec.upto sccJoinsSpec)

end Rows
end Go.Proofs.Ytnfiohekdbjgoaa
