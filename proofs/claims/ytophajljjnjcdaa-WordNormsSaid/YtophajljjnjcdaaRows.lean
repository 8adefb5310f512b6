/-
  No cell of these rows narrows 'for every input' (looked for: loops, veiled, ifaces, maps, wideKeys, modest, calm, conditions, laid).
  DERIVED. THE GIVEN ROWS OF THIS SEAT. 5 by the template 'for every input the law returns true; each argument reads behind the call as it read before'; 0 by the template 'total and deterministic' (their statements: YtophajljjnjcdaaTotals.lean).
  GIVEN WITH THE SEED: the statements are not yours to turn. If you find one false, say at which input.
  Laid BY PROGRAM, IN A SANDBOX (cutbox-rows.mjs): the forced cells as the released guide's own fill.sh prints them over the translation a554579bb6475e75… (all of the seat's roots in one cut). By AI agents, Wed Nov 11 2026. No macro, syntax, notation, axiom, sorry.
-/
import Derived.Test.YtophajljjnjcdaaChecked
import GoSem.Claim
import GoSem.ClaimJoined
import GoSem.ClaimMapViews
import Derived.JoinedTies
import Derived.KernelRfl
namespace Go.Proofs.Ytophajljjnjcdaa
/- THE CELL 'sum', in the pinned program and in every row, IS THE sha256 OF THE DUMP (.gsa) THAT YtophajljjnjcdaaProg.lean LOADS. Nothing in Lean hashes anything: it is a label: what it is worth is what the hold of that sum in a sandbox is worth. -/
noncomputable def Try.pinned : Pinned := { name := "ytophajljjnjcdaa", sum := "a554579bb6475e7504c4673c6c9e8b934c55a7694d4cdc684474f4dea13675ab", checked := Try.checked }
namespace Rows
def none {H : Type} : Left H := { results := [], args := [] }

/-- 'lariatlaw27.WordTells': WHATEVER THE INPUT: true; the input reads as it did. -/
def wordTellsSpec : ChangeSpec := { name := "wordTells", fn := fun _ => fun
  | [d1, d2] => { results := [.lit (.bool true)], args := [d1, d2] }
  | _ => none }
def wordTellsRow : OpenClaim := { program := "ytophajljjnjcdaa", sum := "a554579bb6475e7504c4673c6c9e8b934c55a7694d4cdc684474f4dea13675ab", func := "lariat/lariatlaw27.WordTells", spec := "wordTells", unfollowed := true, recurses := true, apart := false }
def WordTellsSaid : Prop := wordTellsRow.holds Try.pinned (OpenSpec.ofChange wordTellsSpec)

/-- ITS FALSE NEIGHBOUR: 'it returns false'. Refute it at one input. -/
def wordTellsWrong : ChangeSpec := { name := "wordTells", fn := fun _ => fun
  | [d1, d2] => { results := [.lit (.bool false)], args := [d1, d2] }
  | _ => none }
def WordTellsWrongFalsely : Prop := wordTellsRow.holds Try.pinned (OpenSpec.ofChange wordTellsWrong)

/-- 'lariatlaw27.WordTruths': WHATEVER THE INPUT: true; the input reads as it did. -/
def wordTruthsSpec : ChangeSpec := { name := "wordTruths", fn := fun _ => fun
  | [d1, d2] => { results := [.lit (.bool true)], args := [d1, d2] }
  | _ => none }
def wordTruthsRow : OpenClaim := { program := "ytophajljjnjcdaa", sum := "a554579bb6475e7504c4673c6c9e8b934c55a7694d4cdc684474f4dea13675ab", func := "lariat/lariatlaw27.WordTruths", spec := "wordTruths", unfollowed := true, recurses := true, apart := false }
def WordTruthsSaid : Prop := wordTruthsRow.holds Try.pinned (OpenSpec.ofChange wordTruthsSpec)

/-- ITS FALSE NEIGHBOUR: 'it returns false'. Refute it at one input. -/
def wordTruthsWrong : ChangeSpec := { name := "wordTruths", fn := fun _ => fun
  | [d1, d2] => { results := [.lit (.bool false)], args := [d1, d2] }
  | _ => none }
def WordTruthsWrongFalsely : Prop := wordTruthsRow.holds Try.pinned (OpenSpec.ofChange wordTruthsWrong)

/-- 'lariatlaw27.WordNorms': WHATEVER THE INPUT: true; the input reads as it did. -/
def wordNormsSpec : ChangeSpec := { name := "wordNorms", fn := fun _ => fun
  | [d1, d2, d3] => { results := [.lit (.bool true)], args := [d1, d2, d3] }
  | _ => none }
def wordNormsRow : OpenClaim := { program := "ytophajljjnjcdaa", sum := "a554579bb6475e7504c4673c6c9e8b934c55a7694d4cdc684474f4dea13675ab", func := "lariat/lariatlaw27.WordNorms", spec := "wordNorms", unfollowed := true, recurses := true, apart := false }
def WordNormsSaid : Prop := wordNormsRow.holds Try.pinned (OpenSpec.ofChange wordNormsSpec)

/-- ITS FALSE NEIGHBOUR: 'it returns false'. Refute it at one input. -/
def wordNormsWrong : ChangeSpec := { name := "wordNorms", fn := fun _ => fun
  | [d1, d2, d3] => { results := [.lit (.bool false)], args := [d1, d2, d3] }
  | _ => none }
def WordNormsWrongFalsely : Prop := wordNormsRow.holds Try.pinned (OpenSpec.ofChange wordNormsWrong)

/-- 'lariatlaw27.WordFixpoints': WHATEVER THE INPUT: true; the input reads as it did. -/
def wordFixpointsSpec : ChangeSpec := { name := "wordFixpoints", fn := fun _ => fun
  | [d1, d2] => { results := [.lit (.bool true)], args := [d1, d2] }
  | _ => none }
def wordFixpointsRow : OpenClaim := { program := "ytophajljjnjcdaa", sum := "a554579bb6475e7504c4673c6c9e8b934c55a7694d4cdc684474f4dea13675ab", func := "lariat/lariatlaw27.WordFixpoints", spec := "wordFixpoints", unfollowed := true, recurses := true, apart := false }
def WordFixpointsSaid : Prop := wordFixpointsRow.holds Try.pinned (OpenSpec.ofChange wordFixpointsSpec)

/-- ITS FALSE NEIGHBOUR: 'it returns false'. Refute it at one input. -/
def wordFixpointsWrong : ChangeSpec := { name := "wordFixpoints", fn := fun _ => fun
  | [d1, d2] => { results := [.lit (.bool false)], args := [d1, d2] }
  | _ => none }
def WordFixpointsWrongFalsely : Prop := wordFixpointsRow.holds Try.pinned (OpenSpec.ofChange wordFixpointsWrong)

/-- 'lariatlaw27.WordPlaces': WHATEVER THE INPUT: true; the input reads as it did. -/
def wordPlacesSpec : ChangeSpec := { name := "wordPlaces", fn := fun _ => fun
  | [d1, d2, d3] => { results := [.lit (.bool true)], args := [d1, d2, d3] }
  | _ => none }
def wordPlacesRow : OpenClaim := { program := "ytophajljjnjcdaa", sum := "a554579bb6475e7504c4673c6c9e8b934c55a7694d4cdc684474f4dea13675ab", func := "lariat/lariatlaw27.WordPlaces", spec := "wordPlaces", unfollowed := true, recurses := true, apart := false }
def WordPlacesSaid : Prop := wordPlacesRow.holds Try.pinned (OpenSpec.ofChange wordPlacesSpec)

/-- ITS FALSE NEIGHBOUR: 'it returns false'. Refute it at one input. -/
def wordPlacesWrong : ChangeSpec := { name := "wordPlaces", fn := fun _ => fun
  | [d1, d2, d3] => { results := [.lit (.bool false)], args := [d1, d2, d3] }
  | _ => none }
def WordPlacesWrongFalsely : Prop := wordPlacesRow.holds Try.pinned (OpenSpec.ofChange wordPlacesWrong)

/- THE SECOND FORM. 'bulk': how many values and letters a reading holds, each counted each time it is reached (what is shared counts as often as it is met; a slice's spare places count too). A statement '..UptoSaid' is the law's where the arguments, and the package variables that the reading takes, are together of bulk at most 1048576: NARROWER than '..Said'. Prove '..Said' where nothing that the law and all that it calls make is longer than what came in: it says more and counts as full. Else prove '..UptoSaid'. A law counts once. -/
mutual
def uptoBulk {H : Type} : DataW H → Nat
  | .lit (.string bytes) => bytes.length + 1
  | .lit _ => 1
  | .nil => 1
  | .ptr d => uptoBulk d + 1
  | .slice elems spare => uptoBulkAll elems + uptoBulkAll spare + 1
  | .agg parts => uptoBulkAll parts + 1
  | .iface _ d => uptoBulk d + 1
  | .map entries => uptoBulkEntries entries + 1
  | .held _ => 1
def uptoBulkAll {H : Type} : List (DataW H) → Nat
  | [] => 0
  | d :: r => uptoBulk d + uptoBulkAll r
def uptoBulkEntries {H : Type} : List (Lit × DataW H) → Nat
  | [] => 0
  | x :: r => uptoBulkEntry x + uptoBulkEntries r
def uptoBulkEntry {H : Type} : Lit × DataW H → Nat
  | (.string bytes, d) => bytes.length + uptoBulk d + 1
  | (_, d) => uptoBulk d + 1
 end
def uptoSmall : (H : Type) → List (DataW H) → Bool := fun _ ds => decide (uptoBulkAll ds ≤ 1048576)
def OpenSpec.upto (s : _root_.Go.ChangeSpec) : _root_.Go.OpenSpec := { _root_.Go.OpenSpec.ofChange s with cond := some uptoSmall }

/-- 'lariatlaw27.WordTells', WHERE WHAT IT READS IS OF BULK AT MOST 1048576: true; the input reads as it did. -/
def wordTellsUptoRow : OpenClaim := { program := "ytophajljjnjcdaa", sum := "a554579bb6475e7504c4673c6c9e8b934c55a7694d4cdc684474f4dea13675ab", func := "lariat/lariatlaw27.WordTells", spec := "wordTells", unfollowed := true, recurses := true, apart := false, narrowed := true }
def WordTellsUptoSaid : Prop := wordTellsUptoRow.holds Try.pinned (OpenSpec.upto wordTellsSpec)

/-- 'lariatlaw27.WordTruths', WHERE WHAT IT READS IS OF BULK AT MOST 1048576: true; the input reads as it did. -/
def wordTruthsUptoRow : OpenClaim := { program := "ytophajljjnjcdaa", sum := "a554579bb6475e7504c4673c6c9e8b934c55a7694d4cdc684474f4dea13675ab", func := "lariat/lariatlaw27.WordTruths", spec := "wordTruths", unfollowed := true, recurses := true, apart := false, narrowed := true }
def WordTruthsUptoSaid : Prop := wordTruthsUptoRow.holds Try.pinned (OpenSpec.upto wordTruthsSpec)

/-- 'lariatlaw27.WordNorms', WHERE WHAT IT READS IS OF BULK AT MOST 1048576: true; the input reads as it did. -/
def wordNormsUptoRow : OpenClaim := { program := "ytophajljjnjcdaa", sum := "a554579bb6475e7504c4673c6c9e8b934c55a7694d4cdc684474f4dea13675ab", func := "lariat/lariatlaw27.WordNorms", spec := "wordNorms", unfollowed := true, recurses := true, apart := false, narrowed := true }
def WordNormsUptoSaid : Prop := wordNormsUptoRow.holds Try.pinned (OpenSpec.upto wordNormsSpec)

/-- 'lariatlaw27.WordFixpoints', WHERE WHAT IT READS IS OF BULK AT MOST 1048576: true; the input reads as it did. -/
def wordFixpointsUptoRow : OpenClaim := { program := "ytophajljjnjcdaa", sum := "a554579bb6475e7504c4673c6c9e8b934c55a7694d4cdc684474f4dea13675ab", func := "lariat/lariatlaw27.WordFixpoints", spec := "wordFixpoints", unfollowed := true, recurses := true, apart := false, narrowed := true }
def WordFixpointsUptoSaid : Prop := wordFixpointsUptoRow.holds Try.pinned (OpenSpec.upto wordFixpointsSpec)

/-- 'lariatlaw27.WordPlaces', WHERE WHAT IT READS IS OF BULK AT MOST 1048576: true; the input reads as it did. -/
def wordPlacesUptoRow : OpenClaim := { program := "ytophajljjnjcdaa", sum := "a554579bb6475e7504c4673c6c9e8b934c55a7694d4cdc684474f4dea13675ab", func := "lariat/lariatlaw27.WordPlaces", spec := "wordPlaces", unfollowed := true, recurses := true, apart := false, narrowed := true }
def WordPlacesUptoSaid : Prop := wordPlacesUptoRow.holds Try.pinned (OpenSpec.upto wordPlacesSpec)

end Rows
end Go.Proofs.Ytophajljjnjcdaa
