/-
  NARROWER THAN 'FOR EVERY INPUT', by the rows' own cells (each row's printed sentence says how): NnfOf: laid · NnfIs: laid · NnfStays: laid · NnfWords: laid · NnfPlaces: laid · NnfNots: laid.
  DERIVED. THE GIVEN ROWS OF THIS SEAT. 6 by the template 'for every input the law returns true; each argument reads behind the call as it read before'; 0 by the template 'total and deterministic' (their statements: YtmdfiamffipbcaaDoorTotals.lean).
  GIVEN WITH THE SEED: the statements are not yours to turn. If you find one false, say at which input.
  Laid BY PROGRAM, IN A SANDBOX (cutbox-rows.mjs): the forced cells as the released guide's own fill.sh prints them over the translation bba1ae3391c31780… (all of the seat's roots in one cut). By AI agents, Wed Nov 11 2026. No macro, syntax, notation, axiom, sorry.
-/
import Derived.Test.YtmdfiamffipbcaaDoorChecked
import GoSem.Claim
import GoSem.ClaimJoined
import GoSem.ClaimMapViews
import Derived.JoinedTies
import Derived.KernelRfl
namespace Go.Proofs.YtmdfiamffipbcaaDoor
/- THE CELL 'sum', in the pinned program and in every row, IS THE sha256 OF THE DUMP (.gsa) THAT YtmdfiamffipbcaaDoorProg.lean LOADS. Nothing in Lean hashes anything: it is a label: what it is worth is what the hold of that sum in a sandbox is worth. -/
noncomputable def Tryd.pinned : Pinned := { name := "ytmdfiamffipbcaadoor", sum := "bba1ae3391c31780d14ce3e50fd92140f1f66e5432d1e8026154249013a39edc", checked := Tryd.checked }
namespace Rows
def none {H : Type} : Left H := { results := [], args := [] }

/- WHAT THE LISTED PACKAGE-LEVEL VARIABLES READ AS WHEN THE CALL BEGINS. Each datum BY PROGRAM (the guide's laid-datum.mjs) off the statement by which the dump's own 'gosem.cut.vars' lays the variable. In a bare row this is a premise. The card (YtmdfiamffipbcaaDoorCards.lean) ties it to the program's text. -/
def laid_lariat_nnf_forms {H : Type} : DataW H := .agg [.agg [.lit (.int .i64 0), .lit (.int .i64 0), .lit (.int .i64 0)], .agg [.lit (.int .i64 1), .lit (.int .i64 2), .lit (.int .i64 0)], .agg [.lit (.int .i64 2), .lit (.int .i64 1), .lit (.int .i64 0)], .agg [.lit (.int .i64 0), .lit (.int .i64 0), .lit (.int .i64 0)], .agg [.lit (.int .i64 0), .lit (.int .i64 0), .lit (.int .i64 0)], .agg [.lit (.int .i64 5), .lit (.int .i64 6), .lit (.int .i64 0)], .agg [.lit (.int .i64 6), .lit (.int .i64 5), .lit (.int .i64 0)], .agg [.lit (.int .i64 6), .lit (.int .i64 5), .lit (.int .i64 0)], .agg [.lit (.int .i64 8), .lit (.int .i64 8), .lit (.int .i64 0)], .agg [.lit (.int .i64 9), .lit (.int .i64 10), .lit (.int .i64 0)], .agg [.lit (.int .i64 10), .lit (.int .i64 9), .lit (.int .i64 0)], .agg [.lit (.int .i64 9), .lit (.int .i64 10), .lit (.int .i64 1)], .agg [.lit (.int .i64 10), .lit (.int .i64 9), .lit (.int .i64 2)]]

/-- 'lariatlaw25.NnfOf': WHATEVER THE INPUT: true; the input reads as it did. -/
def nnfOfSpec : ChangeSpec := { name := "nnfOf", fn := fun _ => fun
  | [d] => { results := [.lit (.bool true)], args := [d] }
  | _ => none }
def nnfOfRow : OpenClaim := { program := "ytmdfiamffipbcaadoor", sum := "bba1ae3391c31780d14ce3e50fd92140f1f66e5432d1e8026154249013a39edc", func := "lariat/lariatlaw25.NnfOf", spec := "nnfOf", unfollowed := true, recurses := true, named := ["lariat/nnf.forms"], apart := false, laid := [("lariat/nnf.forms", laid_lariat_nnf_forms)] }
def NnfOfSaid : Prop := nnfOfRow.holds Tryd.pinned (OpenSpec.ofChange nnfOfSpec)

/-- ITS FALSE NEIGHBOUR: 'it returns false'. Refute it at one input. -/
def nnfOfWrong : ChangeSpec := { name := "nnfOf", fn := fun _ => fun
  | [d] => { results := [.lit (.bool false)], args := [d] }
  | _ => none }
def NnfOfWrongFalsely : Prop := nnfOfRow.holds Tryd.pinned (OpenSpec.ofChange nnfOfWrong)

/-- 'lariatlaw25.NnfIs': WHATEVER THE INPUT: true; the input reads as it did. -/
def nnfIsSpec : ChangeSpec := { name := "nnfIs", fn := fun _ => fun
  | [d] => { results := [.lit (.bool true)], args := [d] }
  | _ => none }
def nnfIsRow : OpenClaim := { program := "ytmdfiamffipbcaadoor", sum := "bba1ae3391c31780d14ce3e50fd92140f1f66e5432d1e8026154249013a39edc", func := "lariat/lariatlaw25.NnfIs", spec := "nnfIs", unfollowed := true, recurses := true, named := ["lariat/nnf.forms"], apart := false, laid := [("lariat/nnf.forms", laid_lariat_nnf_forms)] }
def NnfIsSaid : Prop := nnfIsRow.holds Tryd.pinned (OpenSpec.ofChange nnfIsSpec)

/-- ITS FALSE NEIGHBOUR: 'it returns false'. Refute it at one input. -/
def nnfIsWrong : ChangeSpec := { name := "nnfIs", fn := fun _ => fun
  | [d] => { results := [.lit (.bool false)], args := [d] }
  | _ => none }
def NnfIsWrongFalsely : Prop := nnfIsRow.holds Tryd.pinned (OpenSpec.ofChange nnfIsWrong)

/-- 'lariatlaw25.NnfStays': WHATEVER THE INPUT: true; the input reads as it did. -/
def nnfStaysSpec : ChangeSpec := { name := "nnfStays", fn := fun _ => fun
  | [d] => { results := [.lit (.bool true)], args := [d] }
  | _ => none }
def nnfStaysRow : OpenClaim := { program := "ytmdfiamffipbcaadoor", sum := "bba1ae3391c31780d14ce3e50fd92140f1f66e5432d1e8026154249013a39edc", func := "lariat/lariatlaw25.NnfStays", spec := "nnfStays", unfollowed := true, recurses := true, named := ["lariat/nnf.forms"], apart := false, laid := [("lariat/nnf.forms", laid_lariat_nnf_forms)] }
def NnfStaysSaid : Prop := nnfStaysRow.holds Tryd.pinned (OpenSpec.ofChange nnfStaysSpec)

/-- ITS FALSE NEIGHBOUR: 'it returns false'. Refute it at one input. -/
def nnfStaysWrong : ChangeSpec := { name := "nnfStays", fn := fun _ => fun
  | [d] => { results := [.lit (.bool false)], args := [d] }
  | _ => none }
def NnfStaysWrongFalsely : Prop := nnfStaysRow.holds Tryd.pinned (OpenSpec.ofChange nnfStaysWrong)

/-- 'lariatlaw25.NnfWords': WHATEVER THE INPUT: true; the input reads as it did. -/
def nnfWordsSpec : ChangeSpec := { name := "nnfWords", fn := fun _ => fun
  | [d1, d2] => { results := [.lit (.bool true)], args := [d1, d2] }
  | _ => none }
def nnfWordsRow : OpenClaim := { program := "ytmdfiamffipbcaadoor", sum := "bba1ae3391c31780d14ce3e50fd92140f1f66e5432d1e8026154249013a39edc", func := "lariat/lariatlaw25.NnfWords", spec := "nnfWords", unfollowed := true, recurses := true, named := ["lariat/nnf.forms"], apart := false, laid := [("lariat/nnf.forms", laid_lariat_nnf_forms)] }
def NnfWordsSaid : Prop := nnfWordsRow.holds Tryd.pinned (OpenSpec.ofChange nnfWordsSpec)

/-- ITS FALSE NEIGHBOUR: 'it returns false'. Refute it at one input. -/
def nnfWordsWrong : ChangeSpec := { name := "nnfWords", fn := fun _ => fun
  | [d1, d2] => { results := [.lit (.bool false)], args := [d1, d2] }
  | _ => none }
def NnfWordsWrongFalsely : Prop := nnfWordsRow.holds Tryd.pinned (OpenSpec.ofChange nnfWordsWrong)

/-- 'lariatlaw25.NnfPlaces': WHATEVER THE INPUT: true; the input reads as it did. -/
def nnfPlacesSpec : ChangeSpec := { name := "nnfPlaces", fn := fun _ => fun
  | [d1, d2] => { results := [.lit (.bool true)], args := [d1, d2] }
  | _ => none }
def nnfPlacesRow : OpenClaim := { program := "ytmdfiamffipbcaadoor", sum := "bba1ae3391c31780d14ce3e50fd92140f1f66e5432d1e8026154249013a39edc", func := "lariat/lariatlaw25.NnfPlaces", spec := "nnfPlaces", unfollowed := true, recurses := true, named := ["lariat/nnf.forms"], apart := false, laid := [("lariat/nnf.forms", laid_lariat_nnf_forms)] }
def NnfPlacesSaid : Prop := nnfPlacesRow.holds Tryd.pinned (OpenSpec.ofChange nnfPlacesSpec)

/-- ITS FALSE NEIGHBOUR: 'it returns false'. Refute it at one input. -/
def nnfPlacesWrong : ChangeSpec := { name := "nnfPlaces", fn := fun _ => fun
  | [d1, d2] => { results := [.lit (.bool false)], args := [d1, d2] }
  | _ => none }
def NnfPlacesWrongFalsely : Prop := nnfPlacesRow.holds Tryd.pinned (OpenSpec.ofChange nnfPlacesWrong)

/-- 'lariatlaw25.NnfNots': WHATEVER THE INPUT: true; the input reads as it did. -/
def nnfNotsSpec : ChangeSpec := { name := "nnfNots", fn := fun _ => fun
  | [d] => { results := [.lit (.bool true)], args := [d] }
  | _ => none }
def nnfNotsRow : OpenClaim := { program := "ytmdfiamffipbcaadoor", sum := "bba1ae3391c31780d14ce3e50fd92140f1f66e5432d1e8026154249013a39edc", func := "lariat/lariatlaw25.NnfNots", spec := "nnfNots", unfollowed := true, recurses := true, named := ["lariat/nnf.forms"], apart := false, laid := [("lariat/nnf.forms", laid_lariat_nnf_forms)] }
def NnfNotsSaid : Prop := nnfNotsRow.holds Tryd.pinned (OpenSpec.ofChange nnfNotsSpec)

/-- ITS FALSE NEIGHBOUR: 'it returns false'. Refute it at one input. -/
def nnfNotsWrong : ChangeSpec := { name := "nnfNots", fn := fun _ => fun
  | [d] => { results := [.lit (.bool false)], args := [d] }
  | _ => none }
def NnfNotsWrongFalsely : Prop := nnfNotsRow.holds Tryd.pinned (OpenSpec.ofChange nnfNotsWrong)

/- THE SECOND FORM. 'bulk': how many values and letters a reading holds, each counted each time it is reached (what is shared counts as often as it is met; a slice's spare places count too). A statement '..UptoSaid' is the law's where the arguments, and the package variables that the reading takes, are together of bulk at most 1048576: NARROWER than '..Said'. Prove '..Said' where nothing that the law and all that it calls make is longer than what came in: it says more and counts as full. Else prove '..UptoSaid'. A law counts once. -/
mutual
def uptoBulk {H : Type} : DataW H → Nat
  | .lit (.string bytes) => bytes.length + 1
  | .lit _ => 1
  | .nil => 1
  | .ptr d => uptoBulk d + 1
  | .slice elems spare => uptoBulkAll elems + uptoBulkAll spare + 1
  | .agg parts => uptoBulkAll parts + 1
  | .iface _ d => uptoBulk d + 1
  | .map entries => uptoBulkEntries entries + 1
  | .held _ => 1
def uptoBulkAll {H : Type} : List (DataW H) → Nat
  | [] => 0
  | d :: r => uptoBulk d + uptoBulkAll r
def uptoBulkEntries {H : Type} : List (Lit × DataW H) → Nat
  | [] => 0
  | x :: r => uptoBulkEntry x + uptoBulkEntries r
def uptoBulkEntry {H : Type} : Lit × DataW H → Nat
  | (.string bytes, d) => bytes.length + uptoBulk d + 1
  | (_, d) => uptoBulk d + 1
 end
def uptoSmall : (H : Type) → List (DataW H) → Bool := fun _ ds => decide (uptoBulkAll ds ≤ 1048576)
def OpenSpec.upto (s : _root_.Go.ChangeSpec) : _root_.Go.OpenSpec := { _root_.Go.OpenSpec.ofChange s with cond := some uptoSmall }

/-- 'lariatlaw25.NnfOf', WHERE WHAT IT READS IS OF BULK AT MOST 1048576: true; the input reads as it did. -/
def nnfOfUptoRow : OpenClaim := { program := "ytmdfiamffipbcaadoor", sum := "bba1ae3391c31780d14ce3e50fd92140f1f66e5432d1e8026154249013a39edc", func := "lariat/lariatlaw25.NnfOf", spec := "nnfOf", unfollowed := true, recurses := true, named := ["lariat/nnf.forms"], apart := false, laid := [("lariat/nnf.forms", laid_lariat_nnf_forms)], narrowed := true }
def NnfOfUptoSaid : Prop := nnfOfUptoRow.holds Tryd.pinned (OpenSpec.upto nnfOfSpec)

/-- 'lariatlaw25.NnfIs', WHERE WHAT IT READS IS OF BULK AT MOST 1048576: true; the input reads as it did. -/
def nnfIsUptoRow : OpenClaim := { program := "ytmdfiamffipbcaadoor", sum := "bba1ae3391c31780d14ce3e50fd92140f1f66e5432d1e8026154249013a39edc", func := "lariat/lariatlaw25.NnfIs", spec := "nnfIs", unfollowed := true, recurses := true, named := ["lariat/nnf.forms"], apart := false, laid := [("lariat/nnf.forms", laid_lariat_nnf_forms)], narrowed := true }
def NnfIsUptoSaid : Prop := nnfIsUptoRow.holds Tryd.pinned (OpenSpec.upto nnfIsSpec)

/-- 'lariatlaw25.NnfStays', WHERE WHAT IT READS IS OF BULK AT MOST 1048576: true; the input reads as it did. -/
def nnfStaysUptoRow : OpenClaim := { program := "ytmdfiamffipbcaadoor", sum := "bba1ae3391c31780d14ce3e50fd92140f1f66e5432d1e8026154249013a39edc", func := "lariat/lariatlaw25.NnfStays", spec := "nnfStays", unfollowed := true, recurses := true, named := ["lariat/nnf.forms"], apart := false, laid := [("lariat/nnf.forms", laid_lariat_nnf_forms)], narrowed := true }
def NnfStaysUptoSaid : Prop := nnfStaysUptoRow.holds Tryd.pinned (OpenSpec.upto nnfStaysSpec)

/-- 'lariatlaw25.NnfWords', WHERE WHAT IT READS IS OF BULK AT MOST 1048576: true; the input reads as it did. -/
def nnfWordsUptoRow : OpenClaim := { program := "ytmdfiamffipbcaadoor", sum := "bba1ae3391c31780d14ce3e50fd92140f1f66e5432d1e8026154249013a39edc", func := "lariat/lariatlaw25.NnfWords", spec := "nnfWords", unfollowed := true, recurses := true, named := ["lariat/nnf.forms"], apart := false, laid := [("lariat/nnf.forms", laid_lariat_nnf_forms)], narrowed := true }
def NnfWordsUptoSaid : Prop := nnfWordsUptoRow.holds Tryd.pinned (OpenSpec.upto nnfWordsSpec)

/-- 'lariatlaw25.NnfPlaces', WHERE WHAT IT READS IS OF BULK AT MOST 1048576: true; the input reads as it did. -/
def nnfPlacesUptoRow : OpenClaim := { program := "ytmdfiamffipbcaadoor", sum := "bba1ae3391c31780d14ce3e50fd92140f1f66e5432d1e8026154249013a39edc", func := "lariat/lariatlaw25.NnfPlaces", spec := "nnfPlaces", unfollowed := true, recurses := true, named := ["lariat/nnf.forms"], apart := false, laid := [("lariat/nnf.forms", laid_lariat_nnf_forms)], narrowed := true }
def NnfPlacesUptoSaid : Prop := nnfPlacesUptoRow.holds Tryd.pinned (OpenSpec.upto nnfPlacesSpec)

/-- 'lariatlaw25.NnfNots', WHERE WHAT IT READS IS OF BULK AT MOST 1048576: true; the input reads as it did. -/
def nnfNotsUptoRow : OpenClaim := { program := "ytmdfiamffipbcaadoor", sum := "bba1ae3391c31780d14ce3e50fd92140f1f66e5432d1e8026154249013a39edc", func := "lariat/lariatlaw25.NnfNots", spec := "nnfNots", unfollowed := true, recurses := true, named := ["lariat/nnf.forms"], apart := false, laid := [("lariat/nnf.forms", laid_lariat_nnf_forms)], narrowed := true }
def NnfNotsUptoSaid : Prop := nnfNotsUptoRow.holds Tryd.pinned (OpenSpec.upto nnfNotsSpec)

end Rows
end Go.Proofs.YtmdfiamffipbcaaDoor
