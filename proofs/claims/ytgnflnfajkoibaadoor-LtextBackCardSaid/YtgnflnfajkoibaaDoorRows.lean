/-
  NARROWER THAN 'FOR EVERY INPUT', by the rows' own cells (each row's printed sentence says how): LtextTexts: laid · LtextBack: laid · LtextBytes: laid · LtextParts: laid.
  DERIVED. THE GIVEN ROWS OF THIS SEAT. 4 by the template 'for every input the law returns true; each argument reads behind the call as it read before'; 0 by the template 'total and deterministic' (their statements: YtgnflnfajkoibaaDoorTotals.lean).
  GIVEN WITH THE SEED: the statements are not yours to turn. If you find one false, say at which input.
  Laid BY PROGRAM, IN A SANDBOX (cutbox-rows.mjs): the forced cells as the released guide's own fill.sh prints them over the translation 0ccb55f40674a894… (all of the seat's roots in one cut). By AI agents, Wed Nov 11 2026. No macro, syntax, notation, axiom, sorry.
-/
import Derived.Test.YtgnflnfajkoibaaDoorChecked
import GoSem.Claim
import GoSem.ClaimJoined
import GoSem.ClaimMapViews
import Derived.JoinedTies
import Derived.KernelRfl
namespace Go.Proofs.YtgnflnfajkoibaaDoor
/- THE CELL 'sum', in the pinned program and in every row, IS THE sha256 OF THE DUMP (.gsa) THAT YtgnflnfajkoibaaDoorProg.lean LOADS. Nothing in Lean hashes anything: it is a label: what it is worth is what the hold of that sum in a sandbox is worth. -/
noncomputable def Tryd.pinned : Pinned := { name := "ytgnflnfajkoibaadoor", sum := "0ccb55f40674a8948e6aa84c0551e2959e0c2e76c5876938e977ab477184253a", checked := Tryd.checked }
namespace Rows
def none {H : Type} : Left H := { results := [], args := [] }

/- WHAT THE LISTED PACKAGE-LEVEL VARIABLES READ AS WHEN THE CALL BEGINS. Each datum BY PROGRAM (the guide's laid-datum.mjs) off the statement by which the dump's own 'gosem.cut.vars' lays the variable. In a bare row this is a premise. The card (YtgnflnfajkoibaaDoorCards.lean) ties it to the program's text. -/
def laid_math_bits_deBruijn32tab {H : Type} : DataW H := .agg [.lit (.int .u8 0), .lit (.int .u8 1), .lit (.int .u8 28), .lit (.int .u8 2), .lit (.int .u8 29), .lit (.int .u8 14), .lit (.int .u8 24), .lit (.int .u8 3), .lit (.int .u8 30), .lit (.int .u8 22), .lit (.int .u8 20), .lit (.int .u8 15), .lit (.int .u8 25), .lit (.int .u8 17), .lit (.int .u8 4), .lit (.int .u8 8), .lit (.int .u8 31), .lit (.int .u8 27), .lit (.int .u8 13), .lit (.int .u8 23), .lit (.int .u8 21), .lit (.int .u8 19), .lit (.int .u8 16), .lit (.int .u8 7), .lit (.int .u8 26), .lit (.int .u8 12), .lit (.int .u8 18), .lit (.int .u8 6), .lit (.int .u8 11), .lit (.int .u8 5), .lit (.int .u8 10), .lit (.int .u8 9)]
def laid_math_bits_deBruijn64tab {H : Type} : DataW H := .agg [.lit (.int .u8 0), .lit (.int .u8 1), .lit (.int .u8 56), .lit (.int .u8 2), .lit (.int .u8 57), .lit (.int .u8 49), .lit (.int .u8 28), .lit (.int .u8 3), .lit (.int .u8 61), .lit (.int .u8 58), .lit (.int .u8 42), .lit (.int .u8 50), .lit (.int .u8 38), .lit (.int .u8 29), .lit (.int .u8 17), .lit (.int .u8 4), .lit (.int .u8 62), .lit (.int .u8 47), .lit (.int .u8 59), .lit (.int .u8 36), .lit (.int .u8 45), .lit (.int .u8 43), .lit (.int .u8 51), .lit (.int .u8 22), .lit (.int .u8 53), .lit (.int .u8 39), .lit (.int .u8 33), .lit (.int .u8 30), .lit (.int .u8 24), .lit (.int .u8 18), .lit (.int .u8 12), .lit (.int .u8 5), .lit (.int .u8 63), .lit (.int .u8 55), .lit (.int .u8 48), .lit (.int .u8 27), .lit (.int .u8 60), .lit (.int .u8 41), .lit (.int .u8 37), .lit (.int .u8 16), .lit (.int .u8 46), .lit (.int .u8 35), .lit (.int .u8 44), .lit (.int .u8 21), .lit (.int .u8 52), .lit (.int .u8 32), .lit (.int .u8 23), .lit (.int .u8 11), .lit (.int .u8 54), .lit (.int .u8 26), .lit (.int .u8 40), .lit (.int .u8 15), .lit (.int .u8 34), .lit (.int .u8 20), .lit (.int .u8 31), .lit (.int .u8 10), .lit (.int .u8 25), .lit (.int .u8 14), .lit (.int .u8 19), .lit (.int .u8 9), .lit (.int .u8 13), .lit (.int .u8 8), .lit (.int .u8 7), .lit (.int .u8 6)]
def laid_internal_strconv_uint64pow10 {H : Type} : DataW H := .agg [.lit (.int .u64 1), .lit (.int .u64 10), .lit (.int .u64 100), .lit (.int .u64 1000), .lit (.int .u64 10000), .lit (.int .u64 100000), .lit (.int .u64 1000000), .lit (.int .u64 10000000), .lit (.int .u64 100000000), .lit (.int .u64 1000000000), .lit (.int .u64 10000000000), .lit (.int .u64 100000000000), .lit (.int .u64 1000000000000), .lit (.int .u64 10000000000000), .lit (.int .u64 100000000000000), .lit (.int .u64 1000000000000000), .lit (.int .u64 10000000000000000), .lit (.int .u64 100000000000000000), .lit (.int .u64 1000000000000000000), .lit (.int .u64 10000000000000000000)]
def laid_strconv_ErrRange {H : Type} : DataW H := .iface "*errors.errorString" (.ptr (.agg [.lit (.string [118, 97, 108, 117, 101, 32, 111, 117, 116, 32, 111, 102, 32, 114, 97, 110, 103, 101])]))
def laid_strconv_ErrSyntax {H : Type} : DataW H := .iface "*errors.errorString" (.ptr (.agg [.lit (.string [105, 110, 118, 97, 108, 105, 100, 32, 115, 121, 110, 116, 97, 120])]))
def laid_lariat_lex_signs {H : Type} : DataW H := .agg [.lit (.string [40]), .lit (.string [41]), .lit (.string [91]), .lit (.string [93]), .lit (.string [123]), .lit (.string [125]), .lit (.string [59]), .lit (.string [44]), .lit (.string [58]), .lit (.string [46]), .lit (.string [58, 61]), .lit (.string [61, 61]), .lit (.string [33, 61]), .lit (.string [60]), .lit (.string [60, 61]), .lit (.string [45, 62]), .lit (.string [43]), .lit (.string [45]), .lit (.string [42]), .lit (.string [33]), .lit (.string [63]), .lit (.string [38, 38]), .lit (.string [124, 124]), .lit (.string [61, 62]), .lit (.string [64])]
def laid_lariat_ltext_operations {H : Type} : DataW H := .agg [.agg [.lit (.int .i64 1), .lit (.string [116, 114, 117, 101]), .lit (.int .i64 5), .lit (.int .i64 0), .lit (.int .i64 0)], .agg [.lit (.int .i64 2), .lit (.string [102, 97, 108, 115, 101]), .lit (.int .i64 5), .lit (.int .i64 0), .lit (.int .i64 0)], .agg [.lit (.int .i64 4), .lit (.string [33]), .lit (.int .i64 5), .lit (.int .i64 0), .lit (.int .i64 5)], .agg [.lit (.int .i64 8), .lit (.string [88]), .lit (.int .i64 5), .lit (.int .i64 0), .lit (.int .i64 5)], .agg [.lit (.int .i64 11), .lit (.string [70]), .lit (.int .i64 5), .lit (.int .i64 0), .lit (.int .i64 5)], .agg [.lit (.int .i64 12), .lit (.string [71]), .lit (.int .i64 5), .lit (.int .i64 0), .lit (.int .i64 5)], .agg [.lit (.int .i64 9), .lit (.string [85]), .lit (.int .i64 4), .lit (.int .i64 5), .lit (.int .i64 4)], .agg [.lit (.int .i64 10), .lit (.string [82]), .lit (.int .i64 4), .lit (.int .i64 5), .lit (.int .i64 4)], .agg [.lit (.int .i64 5), .lit (.string [38, 38]), .lit (.int .i64 3), .lit (.int .i64 3), .lit (.int .i64 4)], .agg [.lit (.int .i64 6), .lit (.string [124, 124]), .lit (.int .i64 2), .lit (.int .i64 2), .lit (.int .i64 3)], .agg [.lit (.int .i64 7), .lit (.string [61, 62]), .lit (.int .i64 1), .lit (.int .i64 2), .lit (.int .i64 1)]]

/-- 'lariatlaw24.LtextTexts': WHATEVER THE INPUT: true; the input reads as it did. -/
def ltextTextsSpec : ChangeSpec := { name := "ltextTexts", fn := fun _ => fun
  | [d1, d2] => { results := [.lit (.bool true)], args := [d1, d2] }
  | _ => none }
def ltextTextsRow : OpenClaim := { program := "ytgnflnfajkoibaadoor", sum := "0ccb55f40674a8948e6aa84c0551e2959e0c2e76c5876938e977ab477184253a", func := "lariat/lariatlaw24.LtextTexts", spec := "ltextTexts", unfollowed := true, recurses := true, named := ["lariat/ltext.operations", "strconv.ErrSyntax", "strconv.ErrRange", "internal/strconv.uint64pow10", "math/bits.deBruijn32tab", "math/bits.deBruijn64tab", "lariat/lex.signs"], apart := false, laid := [("math/bits.deBruijn32tab", laid_math_bits_deBruijn32tab), ("math/bits.deBruijn64tab", laid_math_bits_deBruijn64tab), ("internal/strconv.uint64pow10", laid_internal_strconv_uint64pow10), ("strconv.ErrRange", laid_strconv_ErrRange), ("strconv.ErrSyntax", laid_strconv_ErrSyntax), ("lariat/lex.signs", laid_lariat_lex_signs), ("lariat/ltext.operations", laid_lariat_ltext_operations)] }
def LtextTextsSaid : Prop := ltextTextsRow.holds Tryd.pinned (OpenSpec.ofChange ltextTextsSpec)

/-- ITS FALSE NEIGHBOUR: 'it returns false'. Refute it at one input. -/
def ltextTextsWrong : ChangeSpec := { name := "ltextTexts", fn := fun _ => fun
  | [d1, d2] => { results := [.lit (.bool false)], args := [d1, d2] }
  | _ => none }
def LtextTextsWrongFalsely : Prop := ltextTextsRow.holds Tryd.pinned (OpenSpec.ofChange ltextTextsWrong)

/-- 'lariatlaw24.LtextBack': WHATEVER THE INPUT: true; the input reads as it did. -/
def ltextBackSpec : ChangeSpec := { name := "ltextBack", fn := fun _ => fun
  | [d1, d2, d3] => { results := [.lit (.bool true)], args := [d1, d2, d3] }
  | _ => none }
def ltextBackRow : OpenClaim := { program := "ytgnflnfajkoibaadoor", sum := "0ccb55f40674a8948e6aa84c0551e2959e0c2e76c5876938e977ab477184253a", func := "lariat/lariatlaw24.LtextBack", spec := "ltextBack", unfollowed := true, recurses := true, named := ["lariat/ltext.operations", "strconv.ErrSyntax", "strconv.ErrRange", "internal/strconv.uint64pow10", "math/bits.deBruijn32tab", "math/bits.deBruijn64tab", "lariat/lex.signs"], apart := false, laid := [("math/bits.deBruijn32tab", laid_math_bits_deBruijn32tab), ("math/bits.deBruijn64tab", laid_math_bits_deBruijn64tab), ("internal/strconv.uint64pow10", laid_internal_strconv_uint64pow10), ("strconv.ErrRange", laid_strconv_ErrRange), ("strconv.ErrSyntax", laid_strconv_ErrSyntax), ("lariat/lex.signs", laid_lariat_lex_signs), ("lariat/ltext.operations", laid_lariat_ltext_operations)] }
def LtextBackSaid : Prop := ltextBackRow.holds Tryd.pinned (OpenSpec.ofChange ltextBackSpec)

/-- ITS FALSE NEIGHBOUR: 'it returns false'. Refute it at one input. -/
def ltextBackWrong : ChangeSpec := { name := "ltextBack", fn := fun _ => fun
  | [d1, d2, d3] => { results := [.lit (.bool false)], args := [d1, d2, d3] }
  | _ => none }
def LtextBackWrongFalsely : Prop := ltextBackRow.holds Tryd.pinned (OpenSpec.ofChange ltextBackWrong)

/-- 'lariatlaw24.LtextBytes': WHATEVER THE INPUT: true; the input reads as it did. -/
def ltextBytesSpec : ChangeSpec := { name := "ltextBytes", fn := fun _ => fun
  | [d1, d2, d3, d4] => { results := [.lit (.bool true)], args := [d1, d2, d3, d4] }
  | _ => none }
def ltextBytesRow : OpenClaim := { program := "ytgnflnfajkoibaadoor", sum := "0ccb55f40674a8948e6aa84c0551e2959e0c2e76c5876938e977ab477184253a", func := "lariat/lariatlaw24.LtextBytes", spec := "ltextBytes", unfollowed := true, recurses := true, named := ["lariat/ltext.operations", "strconv.ErrSyntax", "strconv.ErrRange", "internal/strconv.uint64pow10", "math/bits.deBruijn32tab", "math/bits.deBruijn64tab", "lariat/lex.signs"], apart := false, laid := [("math/bits.deBruijn32tab", laid_math_bits_deBruijn32tab), ("math/bits.deBruijn64tab", laid_math_bits_deBruijn64tab), ("internal/strconv.uint64pow10", laid_internal_strconv_uint64pow10), ("strconv.ErrRange", laid_strconv_ErrRange), ("strconv.ErrSyntax", laid_strconv_ErrSyntax), ("lariat/lex.signs", laid_lariat_lex_signs), ("lariat/ltext.operations", laid_lariat_ltext_operations)] }
def LtextBytesSaid : Prop := ltextBytesRow.holds Tryd.pinned (OpenSpec.ofChange ltextBytesSpec)

/-- ITS FALSE NEIGHBOUR: 'it returns false'. Refute it at one input. -/
def ltextBytesWrong : ChangeSpec := { name := "ltextBytes", fn := fun _ => fun
  | [d1, d2, d3, d4] => { results := [.lit (.bool false)], args := [d1, d2, d3, d4] }
  | _ => none }
def LtextBytesWrongFalsely : Prop := ltextBytesRow.holds Tryd.pinned (OpenSpec.ofChange ltextBytesWrong)

/-- 'lariatlaw24.LtextParts': WHATEVER THE INPUT: true; the input reads as it did. -/
def ltextPartsSpec : ChangeSpec := { name := "ltextParts", fn := fun _ => fun
  | [d1, d2, d3] => { results := [.lit (.bool true)], args := [d1, d2, d3] }
  | _ => none }
def ltextPartsRow : OpenClaim := { program := "ytgnflnfajkoibaadoor", sum := "0ccb55f40674a8948e6aa84c0551e2959e0c2e76c5876938e977ab477184253a", func := "lariat/lariatlaw24.LtextParts", spec := "ltextParts", unfollowed := true, recurses := true, named := ["lariat/ltext.operations", "strconv.ErrSyntax", "strconv.ErrRange", "internal/strconv.uint64pow10", "math/bits.deBruijn32tab", "math/bits.deBruijn64tab", "lariat/lex.signs"], apart := false, laid := [("math/bits.deBruijn32tab", laid_math_bits_deBruijn32tab), ("math/bits.deBruijn64tab", laid_math_bits_deBruijn64tab), ("internal/strconv.uint64pow10", laid_internal_strconv_uint64pow10), ("strconv.ErrRange", laid_strconv_ErrRange), ("strconv.ErrSyntax", laid_strconv_ErrSyntax), ("lariat/lex.signs", laid_lariat_lex_signs), ("lariat/ltext.operations", laid_lariat_ltext_operations)] }
def LtextPartsSaid : Prop := ltextPartsRow.holds Tryd.pinned (OpenSpec.ofChange ltextPartsSpec)

/-- ITS FALSE NEIGHBOUR: 'it returns false'. Refute it at one input. -/
def ltextPartsWrong : ChangeSpec := { name := "ltextParts", fn := fun _ => fun
  | [d1, d2, d3] => { results := [.lit (.bool false)], args := [d1, d2, d3] }
  | _ => none }
def LtextPartsWrongFalsely : Prop := ltextPartsRow.holds Tryd.pinned (OpenSpec.ofChange ltextPartsWrong)

/- THE SECOND FORM. 'bulk': how many values and letters a reading holds, each counted each time it is reached (what is shared counts as often as it is met; a slice's spare places count too). A statement '..UptoSaid' is the law's where the arguments, and the package variables that the reading takes, are together of bulk at most 1048576: NARROWER than '..Said'. Prove '..Said' where nothing that the law and all that it calls make is longer than what came in: it says more and counts as full. Else prove '..UptoSaid'. A law counts once. -/
mutual
def uptoBulk {H : Type} : DataW H → Nat
  | .lit (.string bytes) => bytes.length + 1
  | .lit _ => 1
  | .nil => 1
  | .ptr d => uptoBulk d + 1
  | .slice elems spare => uptoBulkAll elems + uptoBulkAll spare + 1
  | .agg parts => uptoBulkAll parts + 1
  | .iface _ d => uptoBulk d + 1
  | .map entries => uptoBulkEntries entries + 1
  | .held _ => 1
def uptoBulkAll {H : Type} : List (DataW H) → Nat
  | [] => 0
  | d :: r => uptoBulk d + uptoBulkAll r
def uptoBulkEntries {H : Type} : List (Lit × DataW H) → Nat
  | [] => 0
  | x :: r => uptoBulkEntry x + uptoBulkEntries r
def uptoBulkEntry {H : Type} : Lit × DataW H → Nat
  | (.string bytes, d) => bytes.length + uptoBulk d + 1
  | (_, d) => uptoBulk d + 1
 end
def uptoSmall : (H : Type) → List (DataW H) → Bool := fun _ ds => decide (uptoBulkAll ds ≤ 1048576)
def OpenSpec.upto (s : _root_.Go.ChangeSpec) : _root_.Go.OpenSpec := { _root_.Go.OpenSpec.ofChange s with cond := some uptoSmall }

/-- 'lariatlaw24.LtextTexts', WHERE WHAT IT READS IS OF BULK AT MOST 1048576: true; the input reads as it did. -/
def ltextTextsUptoRow : OpenClaim := { program := "ytgnflnfajkoibaadoor", sum := "0ccb55f40674a8948e6aa84c0551e2959e0c2e76c5876938e977ab477184253a", func := "lariat/lariatlaw24.LtextTexts", spec := "ltextTexts", unfollowed := true, recurses := true, named := ["lariat/ltext.operations", "strconv.ErrSyntax", "strconv.ErrRange", "internal/strconv.uint64pow10", "math/bits.deBruijn32tab", "math/bits.deBruijn64tab", "lariat/lex.signs"], apart := false, laid := [("math/bits.deBruijn32tab", laid_math_bits_deBruijn32tab), ("math/bits.deBruijn64tab", laid_math_bits_deBruijn64tab), ("internal/strconv.uint64pow10", laid_internal_strconv_uint64pow10), ("strconv.ErrRange", laid_strconv_ErrRange), ("strconv.ErrSyntax", laid_strconv_ErrSyntax), ("lariat/lex.signs", laid_lariat_lex_signs), ("lariat/ltext.operations", laid_lariat_ltext_operations)], narrowed := true }
def LtextTextsUptoSaid : Prop := ltextTextsUptoRow.holds Tryd.pinned (OpenSpec.upto ltextTextsSpec)

/-- 'lariatlaw24.LtextBack', WHERE WHAT IT READS IS OF BULK AT MOST 1048576: true; the input reads as it did. -/
def ltextBackUptoRow : OpenClaim := { program := "ytgnflnfajkoibaadoor", sum := "0ccb55f40674a8948e6aa84c0551e2959e0c2e76c5876938e977ab477184253a", func := "lariat/lariatlaw24.LtextBack", spec := "ltextBack", unfollowed := true, recurses := true, named := ["lariat/ltext.operations", "strconv.ErrSyntax", "strconv.ErrRange", "internal/strconv.uint64pow10", "math/bits.deBruijn32tab", "math/bits.deBruijn64tab", "lariat/lex.signs"], apart := false, laid := [("math/bits.deBruijn32tab", laid_math_bits_deBruijn32tab), ("math/bits.deBruijn64tab", laid_math_bits_deBruijn64tab), ("internal/strconv.uint64pow10", laid_internal_strconv_uint64pow10), ("strconv.ErrRange", laid_strconv_ErrRange), ("strconv.ErrSyntax", laid_strconv_ErrSyntax), ("lariat/lex.signs", laid_lariat_lex_signs), ("lariat/ltext.operations", laid_lariat_ltext_operations)], narrowed := true }
def LtextBackUptoSaid : Prop := ltextBackUptoRow.holds Tryd.pinned (OpenSpec.upto ltextBackSpec)

/-- 'lariatlaw24.LtextBytes', WHERE WHAT IT READS IS OF BULK AT MOST 1048576: true; the input reads as it did. -/
def ltextBytesUptoRow : OpenClaim := { program := "ytgnflnfajkoibaadoor", sum := "0ccb55f40674a8948e6aa84c0551e2959e0c2e76c5876938e977ab477184253a", func := "lariat/lariatlaw24.LtextBytes", spec := "ltextBytes", unfollowed := true, recurses := true, named := ["lariat/ltext.operations", "strconv.ErrSyntax", "strconv.ErrRange", "internal/strconv.uint64pow10", "math/bits.deBruijn32tab", "math/bits.deBruijn64tab", "lariat/lex.signs"], apart := false, laid := [("math/bits.deBruijn32tab", laid_math_bits_deBruijn32tab), ("math/bits.deBruijn64tab", laid_math_bits_deBruijn64tab), ("internal/strconv.uint64pow10", laid_internal_strconv_uint64pow10), ("strconv.ErrRange", laid_strconv_ErrRange), ("strconv.ErrSyntax", laid_strconv_ErrSyntax), ("lariat/lex.signs", laid_lariat_lex_signs), ("lariat/ltext.operations", laid_lariat_ltext_operations)], narrowed := true }
def LtextBytesUptoSaid : Prop := ltextBytesUptoRow.holds Tryd.pinned (OpenSpec.upto ltextBytesSpec)

/-- 'lariatlaw24.LtextParts', WHERE WHAT IT READS IS OF BULK AT MOST 1048576: true; the input reads as it did. -/
def ltextPartsUptoRow : OpenClaim := { program := "ytgnflnfajkoibaadoor", sum := "0ccb55f40674a8948e6aa84c0551e2959e0c2e76c5876938e977ab477184253a", func := "lariat/lariatlaw24.LtextParts", spec := "ltextParts", unfollowed := true, recurses := true, named := ["lariat/ltext.operations", "strconv.ErrSyntax", "strconv.ErrRange", "internal/strconv.uint64pow10", "math/bits.deBruijn32tab", "math/bits.deBruijn64tab", "lariat/lex.signs"], apart := false, laid := [("math/bits.deBruijn32tab", laid_math_bits_deBruijn32tab), ("math/bits.deBruijn64tab", laid_math_bits_deBruijn64tab), ("internal/strconv.uint64pow10", laid_internal_strconv_uint64pow10), ("strconv.ErrRange", laid_strconv_ErrRange), ("strconv.ErrSyntax", laid_strconv_ErrSyntax), ("lariat/lex.signs", laid_lariat_lex_signs), ("lariat/ltext.operations", laid_lariat_ltext_operations)], narrowed := true }
def LtextPartsUptoSaid : Prop := ltextPartsUptoRow.holds Tryd.pinned (OpenSpec.upto ltextPartsSpec)

end Rows
end Go.Proofs.YtgnflnfajkoibaaDoor
