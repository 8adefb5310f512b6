/-
  DERIVED. GIVEN WITH THE SEED: THE CARDS: each row of YtgnflnfajkoibaaDoorRows.lean that lists a variable, with what it lists TIED to the program's text (the seventh form; the later family's looks); each row that meets fmt, with fmt's text TOLD by the authors' own Lean function (tested against real Go, not proved from fmt's source: count such statements apart). THE CARD IS WHAT COUNTS. Prove the row's statement (the work); the ties are given (YtgnflnfajkoibaaDoorTie.lean); close each card by the builder's one call (the guide's Derived/Test/ToyasCard.lean, 'card_holds'). Laid BY PROGRAM, IN A SANDBOX (cutbox-door.mjs). By AI agents, Wed Nov 11 2026. No macro, syntax, notation, axiom, sorry.
-/
import Derived.Test.YtgnflnfajkoibaaDoorRows
import GoSem.ClaimSeven
namespace Go.Proofs.YtgnflnfajkoibaaDoor
namespace Rows

/-- THE TIED CARD OF 'lariatlaw24.LtextTexts'. -/
def ltextTextsCard : Claim7 := { stood := { row := ltextTextsRow, standIns := [], harness := (true, "ab5d307d00defd51f9ad8b1adfce31bae67ce5586f212c717259cc278a8217ac"), looks := true }, kinds := [], alts := [], laidByText := true, laidKinds := [.data, .data, .data, .sentinel, .sentinel, .data, .data], laidTests := true, laidLooks := .later }
def LtextTextsCardSaid : Prop := Claim7.holds Tryd.pinned (.plain (OpenSpec.ofChange ltextTextsSpec)) ltextTextsCard

/-- THE TIED CARD OF 'lariatlaw24.LtextBack'. -/
def ltextBackCard : Claim7 := { stood := { row := ltextBackRow, standIns := [], harness := (true, "ab5d307d00defd51f9ad8b1adfce31bae67ce5586f212c717259cc278a8217ac"), looks := true }, kinds := [], alts := [], laidByText := true, laidKinds := [.data, .data, .data, .sentinel, .sentinel, .data, .data], laidTests := true, laidLooks := .later }
def LtextBackCardSaid : Prop := Claim7.holds Tryd.pinned (.plain (OpenSpec.ofChange ltextBackSpec)) ltextBackCard

/-- THE TIED CARD OF 'lariatlaw24.LtextBytes'. -/
def ltextBytesCard : Claim7 := { stood := { row := ltextBytesRow, standIns := [], harness := (true, "ab5d307d00defd51f9ad8b1adfce31bae67ce5586f212c717259cc278a8217ac"), looks := true }, kinds := [], alts := [], laidByText := true, laidKinds := [.data, .data, .data, .sentinel, .sentinel, .data, .data], laidTests := true, laidLooks := .later }
def LtextBytesCardSaid : Prop := Claim7.holds Tryd.pinned (.plain (OpenSpec.ofChange ltextBytesSpec)) ltextBytesCard

/-- THE TIED CARD OF 'lariatlaw24.LtextParts'. -/
def ltextPartsCard : Claim7 := { stood := { row := ltextPartsRow, standIns := [], harness := (true, "ab5d307d00defd51f9ad8b1adfce31bae67ce5586f212c717259cc278a8217ac"), looks := true }, kinds := [], alts := [], laidByText := true, laidKinds := [.data, .data, .data, .sentinel, .sentinel, .data, .data], laidTests := true, laidLooks := .later }
def LtextPartsCardSaid : Prop := Claim7.holds Tryd.pinned (.plain (OpenSpec.ofChange ltextPartsSpec)) ltextPartsCard

/-- THE SECOND FORM's CARD OF 'lariatlaw24.LtextTexts'. -/
def ltextTextsUptoCard : Claim7 := { stood := { row := ltextTextsUptoRow, standIns := [], harness := (true, "ab5d307d00defd51f9ad8b1adfce31bae67ce5586f212c717259cc278a8217ac"), looks := true }, kinds := [], alts := [], laidByText := true, laidKinds := [.data, .data, .data, .sentinel, .sentinel, .data, .data], laidTests := true, laidLooks := .later }
def LtextTextsUptoCardSaid : Prop := Claim7.holds Tryd.pinned (.plain (OpenSpec.upto ltextTextsSpec)) ltextTextsUptoCard

/-- THE SECOND FORM's CARD OF 'lariatlaw24.LtextBack'. -/
def ltextBackUptoCard : Claim7 := { stood := { row := ltextBackUptoRow, standIns := [], harness := (true, "ab5d307d00defd51f9ad8b1adfce31bae67ce5586f212c717259cc278a8217ac"), looks := true }, kinds := [], alts := [], laidByText := true, laidKinds := [.data, .data, .data, .sentinel, .sentinel, .data, .data], laidTests := true, laidLooks := .later }
def LtextBackUptoCardSaid : Prop := Claim7.holds Tryd.pinned (.plain (OpenSpec.upto ltextBackSpec)) ltextBackUptoCard

/-- THE SECOND FORM's CARD OF 'lariatlaw24.LtextBytes'. -/
def ltextBytesUptoCard : Claim7 := { stood := { row := ltextBytesUptoRow, standIns := [], harness := (true, "ab5d307d00defd51f9ad8b1adfce31bae67ce5586f212c717259cc278a8217ac"), looks := true }, kinds := [], alts := [], laidByText := true, laidKinds := [.data, .data, .data, .sentinel, .sentinel, .data, .data], laidTests := true, laidLooks := .later }
def LtextBytesUptoCardSaid : Prop := Claim7.holds Tryd.pinned (.plain (OpenSpec.upto ltextBytesSpec)) ltextBytesUptoCard

/-- THE SECOND FORM's CARD OF 'lariatlaw24.LtextParts'. -/
def ltextPartsUptoCard : Claim7 := { stood := { row := ltextPartsUptoRow, standIns := [], harness := (true, "ab5d307d00defd51f9ad8b1adfce31bae67ce5586f212c717259cc278a8217ac"), looks := true }, kinds := [], alts := [], laidByText := true, laidKinds := [.data, .data, .data, .sentinel, .sentinel, .data, .data], laidTests := true, laidLooks := .later }
def LtextPartsUptoCardSaid : Prop := Claim7.holds Tryd.pinned (.plain (OpenSpec.upto ltextPartsSpec)) ltextPartsUptoCard
end Rows
end Go.Proofs.YtgnflnfajkoibaaDoor
