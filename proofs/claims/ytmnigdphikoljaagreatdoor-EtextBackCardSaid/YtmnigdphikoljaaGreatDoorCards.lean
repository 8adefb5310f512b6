/-
  DERIVED. GIVEN WITH THE SEED: THE CARDS: each row of YtmnigdphikoljaaGreatDoorRows.lean that lists a variable, with what it lists TIED to the program's text (the seventh form; the later family's looks); each row that meets fmt, with fmt's text TOLD by the authors' own Lean function (tested against real Go, not proved from fmt's source: count such statements apart). THE CARD IS WHAT COUNTS. Prove the row's statement (the work); the ties are given (YtmnigdphikoljaaGreatDoorTie.lean); close each card by the builder's one call (the guide's Derived/Test/ToyasCard.lean, 'card_holds'). Laid BY PROGRAM, IN A SANDBOX (cutbox-door.mjs). By AI agents, Wed Nov 11 2026. No macro, syntax, notation, axiom, sorry.
-/
import Derived.Test.YtmnigdphikoljaaGreatDoorRows
import GoSem.ClaimSeven
namespace Go.Proofs.YtmnigdphikoljaaGreatDoor
namespace Rows

/-- THE TIED CARD OF 'lariatlaw11.EtextTells'. -/
def etextTellsCard : Claim7 := { stood := { row := etextTellsRow, standIns := [], harness := (true, "5e524521400491ddcc171ea829824ab18c6c85f8d0b0520fb5d2944400fd7bc3"), looks := true }, kinds := [], alts := [], laidByText := true, laidKinds := [.data, .data, .data, .sentinel, .sentinel, .data], laidTests := true, laidLooks := .later }
def EtextTellsCardSaid : Prop := Claim7.holds Tryz.pinned (.plain (OpenSpec.ofChange etextTellsSpec)) etextTellsCard

/-- THE TIED CARD OF 'lariatlaw11.EtextReads'. -/
def etextReadsCard : Claim7 := { stood := { row := etextReadsRow, standIns := [], harness := (true, "5e524521400491ddcc171ea829824ab18c6c85f8d0b0520fb5d2944400fd7bc3"), looks := true }, kinds := [], alts := [], laidByText := true, laidKinds := [.data, .data, .data, .sentinel, .sentinel, .data], laidTests := true, laidLooks := .later }
def EtextReadsCardSaid : Prop := Claim7.holds Tryz.pinned (.plain (OpenSpec.ofChange etextReadsSpec)) etextReadsCard

/-- THE TIED CARD OF 'lariatlaw11.EtextBack'. -/
def etextBackCard : Claim7 := { stood := { row := etextBackRow, standIns := [], harness := (true, "5e524521400491ddcc171ea829824ab18c6c85f8d0b0520fb5d2944400fd7bc3"), looks := true }, kinds := [], alts := [], laidByText := true, laidKinds := [.data, .data, .data, .sentinel, .sentinel, .data], laidTests := true, laidLooks := .later }
def EtextBackCardSaid : Prop := Claim7.holds Tryz.pinned (.plain (OpenSpec.ofChange etextBackSpec)) etextBackCard

/-- THE TIED CARD OF 'lariatlaw11.EtextOne'. -/
def etextOneCard : Claim7 := { stood := { row := etextOneRow, standIns := [], harness := (true, "5e524521400491ddcc171ea829824ab18c6c85f8d0b0520fb5d2944400fd7bc3"), looks := true }, kinds := [], alts := [], laidByText := true, laidKinds := [.data, .data, .data, .sentinel, .sentinel, .data], laidTests := true, laidLooks := .later }
def EtextOneCardSaid : Prop := Claim7.holds Tryz.pinned (.plain (OpenSpec.ofChange etextOneSpec)) etextOneCard

/-- THE TIED CARD OF 'lariatlaw11.EtextUnlike'. -/
def etextUnlikeCard : Claim7 := { stood := { row := etextUnlikeRow, standIns := [], harness := (true, "5e524521400491ddcc171ea829824ab18c6c85f8d0b0520fb5d2944400fd7bc3"), looks := true }, kinds := [], alts := [], laidByText := true, laidKinds := [.data, .data, .data, .sentinel, .sentinel, .data], laidTests := true, laidLooks := .later }
def EtextUnlikeCardSaid : Prop := Claim7.holds Tryz.pinned (.plain (OpenSpec.ofChange etextUnlikeSpec)) etextUnlikeCard

/-- THE SECOND FORM's CARD OF 'lariatlaw11.EtextTells'. -/
def etextTellsUptoCard : Claim7 := { stood := { row := etextTellsUptoRow, standIns := [], harness := (true, "5e524521400491ddcc171ea829824ab18c6c85f8d0b0520fb5d2944400fd7bc3"), looks := true }, kinds := [], alts := [], laidByText := true, laidKinds := [.data, .data, .data, .sentinel, .sentinel, .data], laidTests := true, laidLooks := .later }
def EtextTellsUptoCardSaid : Prop := Claim7.holds Tryz.pinned (.plain (OpenSpec.upto etextTellsSpec)) etextTellsUptoCard

/-- THE SECOND FORM's CARD OF 'lariatlaw11.EtextReads'. -/
def etextReadsUptoCard : Claim7 := { stood := { row := etextReadsUptoRow, standIns := [], harness := (true, "5e524521400491ddcc171ea829824ab18c6c85f8d0b0520fb5d2944400fd7bc3"), looks := true }, kinds := [], alts := [], laidByText := true, laidKinds := [.data, .data, .data, .sentinel, .sentinel, .data], laidTests := true, laidLooks := .later }
def EtextReadsUptoCardSaid : Prop := Claim7.holds Tryz.pinned (.plain (OpenSpec.upto etextReadsSpec)) etextReadsUptoCard

/-- THE SECOND FORM's CARD OF 'lariatlaw11.EtextBack'. -/
def etextBackUptoCard : Claim7 := { stood := { row := etextBackUptoRow, standIns := [], harness := (true, "5e524521400491ddcc171ea829824ab18c6c85f8d0b0520fb5d2944400fd7bc3"), looks := true }, kinds := [], alts := [], laidByText := true, laidKinds := [.data, .data, .data, .sentinel, .sentinel, .data], laidTests := true, laidLooks := .later }
def EtextBackUptoCardSaid : Prop := Claim7.holds Tryz.pinned (.plain (OpenSpec.upto etextBackSpec)) etextBackUptoCard

/-- THE SECOND FORM's CARD OF 'lariatlaw11.EtextOne'. -/
def etextOneUptoCard : Claim7 := { stood := { row := etextOneUptoRow, standIns := [], harness := (true, "5e524521400491ddcc171ea829824ab18c6c85f8d0b0520fb5d2944400fd7bc3"), looks := true }, kinds := [], alts := [], laidByText := true, laidKinds := [.data, .data, .data, .sentinel, .sentinel, .data], laidTests := true, laidLooks := .later }
def EtextOneUptoCardSaid : Prop := Claim7.holds Tryz.pinned (.plain (OpenSpec.upto etextOneSpec)) etextOneUptoCard

/-- THE SECOND FORM's CARD OF 'lariatlaw11.EtextUnlike'. -/
def etextUnlikeUptoCard : Claim7 := { stood := { row := etextUnlikeUptoRow, standIns := [], harness := (true, "5e524521400491ddcc171ea829824ab18c6c85f8d0b0520fb5d2944400fd7bc3"), looks := true }, kinds := [], alts := [], laidByText := true, laidKinds := [.data, .data, .data, .sentinel, .sentinel, .data], laidTests := true, laidLooks := .later }
def EtextUnlikeUptoCardSaid : Prop := Claim7.holds Tryz.pinned (.plain (OpenSpec.upto etextUnlikeSpec)) etextUnlikeUptoCard
end Rows
end Go.Proofs.YtmnigdphikoljaaGreatDoor
