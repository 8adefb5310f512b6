/-
  No cell of these rows narrows 'for every input' (looked for: loops, veiled, ifaces, maps, wideKeys, modest, calm, conditions, laid).
  DERIVED. THE GIVEN ROWS OF THIS SEAT. 5 by the template 'for every input the law returns true; each argument reads behind the call as it read before'; 0 by the template 'total and deterministic' (their statements: YtmebajighiedaaaTotals.lean).
  GIVEN WITH THE SEED: the statements are not yours to turn. If you find one false, say at which input.
  Laid BY PROGRAM, IN A SANDBOX (cutbox-rows.mjs): the forced cells as the released guide's own fill.sh prints them over the translation 0fe163126590e079… (all of the seat's roots in one cut). By AI agents, Wed Nov 11 2026. No macro, syntax, notation, axiom, sorry.
-/
import Derived.Test.YtmebajighiedaaaChecked
import GoSem.Claim
import GoSem.ClaimJoined
import GoSem.ClaimMapViews
import Derived.JoinedTies
import Derived.KernelRfl
namespace Go.Proofs.Ytmebajighiedaaa
/- THE CELL 'sum', in the pinned program and in every row, IS THE sha256 OF THE DUMP (.gsa) THAT YtmebajighiedaaaProg.lean LOADS. Nothing in Lean hashes anything: it is a label: what it is worth is what the hold of that sum in a sandbox is worth. -/
noncomputable def Try.pinned : Pinned := { name := "ytmebajighiedaaa", sum := "0fe163126590e079f7d793adc8901cc5aa8c49ced0c1311dbcc6c39e0b0ba053", checked := Try.checked }
namespace Rows
def none {H : Type} : Left H := { results := [], args := [] }

/-- 'lariatlaw19.ChansItems': WHATEVER THE INPUT: true; the input reads as it did. -/
def chansItemsSpec : ChangeSpec := { name := "chansItems", fn := fun _ => fun
  | [d] => { results := [.lit (.bool true)], args := [d] }
  | _ => none }
def chansItemsRow : OpenClaim := { program := "ytmebajighiedaaa", sum := "0fe163126590e079f7d793adc8901cc5aa8c49ced0c1311dbcc6c39e0b0ba053", func := "lariat/lariatlaw19.ChansItems", spec := "chansItems", unfollowed := true, recurses := true, apart := false }
def ChansItemsSaid : Prop := chansItemsRow.holds Try.pinned (OpenSpec.ofChange chansItemsSpec)

/-- ITS FALSE NEIGHBOUR: 'it returns false'. Refute it at one input. -/
def chansItemsWrong : ChangeSpec := { name := "chansItems", fn := fun _ => fun
  | [d] => { results := [.lit (.bool false)], args := [d] }
  | _ => none }
def ChansItemsWrongFalsely : Prop := chansItemsRow.holds Try.pinned (OpenSpec.ofChange chansItemsWrong)

/-- 'lariatlaw19.ChansPuts': WHATEVER THE INPUT: true; the input reads as it did. -/
def chansPutsSpec : ChangeSpec := { name := "chansPuts", fn := fun _ => fun
  | [d1, d2] => { results := [.lit (.bool true)], args := [d1, d2] }
  | _ => none }
def chansPutsRow : OpenClaim := { program := "ytmebajighiedaaa", sum := "0fe163126590e079f7d793adc8901cc5aa8c49ced0c1311dbcc6c39e0b0ba053", func := "lariat/lariatlaw19.ChansPuts", spec := "chansPuts", unfollowed := true, recurses := true, apart := false }
def ChansPutsSaid : Prop := chansPutsRow.holds Try.pinned (OpenSpec.ofChange chansPutsSpec)

/-- ITS FALSE NEIGHBOUR: 'it returns false'. Refute it at one input. -/
def chansPutsWrong : ChangeSpec := { name := "chansPuts", fn := fun _ => fun
  | [d1, d2] => { results := [.lit (.bool false)], args := [d1, d2] }
  | _ => none }
def ChansPutsWrongFalsely : Prop := chansPutsRow.holds Try.pinned (OpenSpec.ofChange chansPutsWrong)

/-- 'lariatlaw19.ChansRight': WHATEVER THE INPUT: true; the input reads as it did. -/
def chansRightSpec : ChangeSpec := { name := "chansRight", fn := fun _ => fun
  | [d1, d2, d3] => { results := [.lit (.bool true)], args := [d1, d2, d3] }
  | _ => none }
def chansRightRow : OpenClaim := { program := "ytmebajighiedaaa", sum := "0fe163126590e079f7d793adc8901cc5aa8c49ced0c1311dbcc6c39e0b0ba053", func := "lariat/lariatlaw19.ChansRight", spec := "chansRight", unfollowed := true, recurses := true, apart := false }
def ChansRightSaid : Prop := chansRightRow.holds Try.pinned (OpenSpec.ofChange chansRightSpec)

/-- ITS FALSE NEIGHBOUR: 'it returns false'. Refute it at one input. -/
def chansRightWrong : ChangeSpec := { name := "chansRight", fn := fun _ => fun
  | [d1, d2, d3] => { results := [.lit (.bool false)], args := [d1, d2, d3] }
  | _ => none }
def ChansRightWrongFalsely : Prop := chansRightRow.holds Try.pinned (OpenSpec.ofChange chansRightWrong)

/-- 'lariatlaw19.ChansOrder': WHATEVER THE INPUT: true; the input reads as it did. -/
def chansOrderSpec : ChangeSpec := { name := "chansOrder", fn := fun _ => fun
  | [d1, d2, d3] => { results := [.lit (.bool true)], args := [d1, d2, d3] }
  | _ => none }
def chansOrderRow : OpenClaim := { program := "ytmebajighiedaaa", sum := "0fe163126590e079f7d793adc8901cc5aa8c49ced0c1311dbcc6c39e0b0ba053", func := "lariat/lariatlaw19.ChansOrder", spec := "chansOrder", unfollowed := true, recurses := true, apart := false }
def ChansOrderSaid : Prop := chansOrderRow.holds Try.pinned (OpenSpec.ofChange chansOrderSpec)

/-- ITS FALSE NEIGHBOUR: 'it returns false'. Refute it at one input. -/
def chansOrderWrong : ChangeSpec := { name := "chansOrder", fn := fun _ => fun
  | [d1, d2, d3] => { results := [.lit (.bool false)], args := [d1, d2, d3] }
  | _ => none }
def ChansOrderWrongFalsely : Prop := chansOrderRow.holds Try.pinned (OpenSpec.ofChange chansOrderWrong)

/-- 'lariatlaw19.ChansApart': WHATEVER THE INPUT: true; the input reads as it did. -/
def chansApartSpec : ChangeSpec := { name := "chansApart", fn := fun _ => fun
  | [d1, d2] => { results := [.lit (.bool true)], args := [d1, d2] }
  | _ => none }
def chansApartRow : OpenClaim := { program := "ytmebajighiedaaa", sum := "0fe163126590e079f7d793adc8901cc5aa8c49ced0c1311dbcc6c39e0b0ba053", func := "lariat/lariatlaw19.ChansApart", spec := "chansApart", unfollowed := true, recurses := true, apart := false }
def ChansApartSaid : Prop := chansApartRow.holds Try.pinned (OpenSpec.ofChange chansApartSpec)

/-- ITS FALSE NEIGHBOUR: 'it returns false'. Refute it at one input. -/
def chansApartWrong : ChangeSpec := { name := "chansApart", fn := fun _ => fun
  | [d1, d2] => { results := [.lit (.bool false)], args := [d1, d2] }
  | _ => none }
def ChansApartWrongFalsely : Prop := chansApartRow.holds Try.pinned (OpenSpec.ofChange chansApartWrong)

/- THE SECOND FORM. 'bulk': how many values and letters a reading holds, each counted each time it is reached (what is shared counts as often as it is met; a slice's spare places count too). A statement '..UptoSaid' is the law's where the arguments, and the package variables that the reading takes, are together of bulk at most 1048576: NARROWER than '..Said'. Prove '..Said' where nothing that the law and all that it calls make is longer than what came in: it says more and counts as full. Else prove '..UptoSaid'. A law counts once. -/
mutual
def uptoBulk {H : Type} : DataW H → Nat
  | .lit (.string bytes) => bytes.length + 1
  | .lit _ => 1
  | .nil => 1
  | .ptr d => uptoBulk d + 1
  | .slice elems spare => uptoBulkAll elems + uptoBulkAll spare + 1
  | .agg parts => uptoBulkAll parts + 1
  | .iface _ d => uptoBulk d + 1
  | .map entries => uptoBulkEntries entries + 1
  | .held _ => 1
def uptoBulkAll {H : Type} : List (DataW H) → Nat
  | [] => 0
  | d :: r => uptoBulk d + uptoBulkAll r
def uptoBulkEntries {H : Type} : List (Lit × DataW H) → Nat
  | [] => 0
  | x :: r => uptoBulkEntry x + uptoBulkEntries r
def uptoBulkEntry {H : Type} : Lit × DataW H → Nat
  | (.string bytes, d) => bytes.length + uptoBulk d + 1
  | (_, d) => uptoBulk d + 1
 end
def uptoSmall : (H : Type) → List (DataW H) → Bool := fun _ ds => decide (uptoBulkAll ds ≤ 1048576)
def OpenSpec.upto (s : _root_.Go.ChangeSpec) : _root_.Go.OpenSpec := { _root_.Go.OpenSpec.ofChange s with cond := some uptoSmall }

/-- 'lariatlaw19.ChansItems', WHERE WHAT IT READS IS OF BULK AT MOST 1048576: true; the input reads as it did. -/
def chansItemsUptoRow : OpenClaim := { program := "ytmebajighiedaaa", sum := "0fe163126590e079f7d793adc8901cc5aa8c49ced0c1311dbcc6c39e0b0ba053", func := "lariat/lariatlaw19.ChansItems", spec := "chansItems", unfollowed := true, recurses := true, apart := false, narrowed := true }
def ChansItemsUptoSaid : Prop := chansItemsUptoRow.holds Try.pinned (OpenSpec.upto chansItemsSpec)

/-- 'lariatlaw19.ChansPuts', WHERE WHAT IT READS IS OF BULK AT MOST 1048576: true; the input reads as it did. -/
def chansPutsUptoRow : OpenClaim := { program := "ytmebajighiedaaa", sum := "0fe163126590e079f7d793adc8901cc5aa8c49ced0c1311dbcc6c39e0b0ba053", func := "lariat/lariatlaw19.ChansPuts", spec := "chansPuts", unfollowed := true, recurses := true, apart := false, narrowed := true }
def ChansPutsUptoSaid : Prop := chansPutsUptoRow.holds Try.pinned (OpenSpec.upto chansPutsSpec)

/-- 'lariatlaw19.ChansRight', WHERE WHAT IT READS IS OF BULK AT MOST 1048576: true; the input reads as it did. -/
def chansRightUptoRow : OpenClaim := { program := "ytmebajighiedaaa", sum := "0fe163126590e079f7d793adc8901cc5aa8c49ced0c1311dbcc6c39e0b0ba053", func := "lariat/lariatlaw19.ChansRight", spec := "chansRight", unfollowed := true, recurses := true, apart := false, narrowed := true }
def ChansRightUptoSaid : Prop := chansRightUptoRow.holds Try.pinned (OpenSpec.upto chansRightSpec)

/-- 'lariatlaw19.ChansOrder', WHERE WHAT IT READS IS OF BULK AT MOST 1048576: true; the input reads as it did. -/
def chansOrderUptoRow : OpenClaim := { program := "ytmebajighiedaaa", sum := "0fe163126590e079f7d793adc8901cc5aa8c49ced0c1311dbcc6c39e0b0ba053", func := "lariat/lariatlaw19.ChansOrder", spec := "chansOrder", unfollowed := true, recurses := true, apart := false, narrowed := true }
def ChansOrderUptoSaid : Prop := chansOrderUptoRow.holds Try.pinned (OpenSpec.upto chansOrderSpec)

/-- 'lariatlaw19.ChansApart', WHERE WHAT IT READS IS OF BULK AT MOST 1048576: true; the input reads as it did. -/
def chansApartUptoRow : OpenClaim := { program := "ytmebajighiedaaa", sum := "0fe163126590e079f7d793adc8901cc5aa8c49ced0c1311dbcc6c39e0b0ba053", func := "lariat/lariatlaw19.ChansApart", spec := "chansApart", unfollowed := true, recurses := true, apart := false, narrowed := true }
def ChansApartUptoSaid : Prop := chansApartUptoRow.holds Try.pinned (OpenSpec.upto chansApartSpec)

end Rows
end Go.Proofs.Ytmebajighiedaaa
