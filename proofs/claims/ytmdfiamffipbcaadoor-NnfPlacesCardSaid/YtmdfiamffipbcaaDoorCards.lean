/-
  DERIVED. GIVEN WITH THE SEED: THE CARDS: each row of YtmdfiamffipbcaaDoorRows.lean that lists a variable, with what it lists TIED to the program's text (the seventh form; the later family's looks); each row that meets fmt, with fmt's text TOLD by the authors' own Lean function (tested against real Go, not proved from fmt's source: count such statements apart). THE CARD IS WHAT COUNTS. Prove the row's statement (the work); the ties are given (YtmdfiamffipbcaaDoorTie.lean); close each card by the builder's one call (the guide's Derived/Test/ToyasCard.lean, 'card_holds'). Laid BY PROGRAM, IN A SANDBOX (cutbox-door.mjs). By AI agents, Wed Nov 11 2026. No macro, syntax, notation, axiom, sorry.
-/
import Derived.Test.YtmdfiamffipbcaaDoorRows
import GoSem.ClaimSeven
namespace Go.Proofs.YtmdfiamffipbcaaDoor
namespace Rows

/-- THE TIED CARD OF 'lariatlaw25.NnfOf'. -/
def nnfOfCard : Claim7 := { stood := { row := nnfOfRow, standIns := [], harness := (true, "74aaaffee01377bb8532d0f4e763cfd570779a8057e1d906830fb13faa4fe51e"), looks := false }, kinds := [], alts := [], laidByText := true, laidKinds := [.data], laidTests := true, laidLooks := .later }
def NnfOfCardSaid : Prop := Claim7.holds Tryd.pinned (.plain (OpenSpec.ofChange nnfOfSpec)) nnfOfCard

/-- THE TIED CARD OF 'lariatlaw25.NnfIs'. -/
def nnfIsCard : Claim7 := { stood := { row := nnfIsRow, standIns := [], harness := (true, "74aaaffee01377bb8532d0f4e763cfd570779a8057e1d906830fb13faa4fe51e"), looks := false }, kinds := [], alts := [], laidByText := true, laidKinds := [.data], laidTests := true, laidLooks := .later }
def NnfIsCardSaid : Prop := Claim7.holds Tryd.pinned (.plain (OpenSpec.ofChange nnfIsSpec)) nnfIsCard

/-- THE TIED CARD OF 'lariatlaw25.NnfStays'. -/
def nnfStaysCard : Claim7 := { stood := { row := nnfStaysRow, standIns := [], harness := (true, "74aaaffee01377bb8532d0f4e763cfd570779a8057e1d906830fb13faa4fe51e"), looks := false }, kinds := [], alts := [], laidByText := true, laidKinds := [.data], laidTests := true, laidLooks := .later }
def NnfStaysCardSaid : Prop := Claim7.holds Tryd.pinned (.plain (OpenSpec.ofChange nnfStaysSpec)) nnfStaysCard

/-- THE TIED CARD OF 'lariatlaw25.NnfWords'. -/
def nnfWordsCard : Claim7 := { stood := { row := nnfWordsRow, standIns := [], harness := (true, "74aaaffee01377bb8532d0f4e763cfd570779a8057e1d906830fb13faa4fe51e"), looks := false }, kinds := [], alts := [], laidByText := true, laidKinds := [.data], laidTests := true, laidLooks := .later }
def NnfWordsCardSaid : Prop := Claim7.holds Tryd.pinned (.plain (OpenSpec.ofChange nnfWordsSpec)) nnfWordsCard

/-- THE TIED CARD OF 'lariatlaw25.NnfPlaces'. -/
def nnfPlacesCard : Claim7 := { stood := { row := nnfPlacesRow, standIns := [], harness := (true, "74aaaffee01377bb8532d0f4e763cfd570779a8057e1d906830fb13faa4fe51e"), looks := false }, kinds := [], alts := [], laidByText := true, laidKinds := [.data], laidTests := true, laidLooks := .later }
def NnfPlacesCardSaid : Prop := Claim7.holds Tryd.pinned (.plain (OpenSpec.ofChange nnfPlacesSpec)) nnfPlacesCard

/-- THE TIED CARD OF 'lariatlaw25.NnfNots'. -/
def nnfNotsCard : Claim7 := { stood := { row := nnfNotsRow, standIns := [], harness := (true, "74aaaffee01377bb8532d0f4e763cfd570779a8057e1d906830fb13faa4fe51e"), looks := false }, kinds := [], alts := [], laidByText := true, laidKinds := [.data], laidTests := true, laidLooks := .later }
def NnfNotsCardSaid : Prop := Claim7.holds Tryd.pinned (.plain (OpenSpec.ofChange nnfNotsSpec)) nnfNotsCard

/-- THE SECOND FORM's CARD OF 'lariatlaw25.NnfOf'. -/
def nnfOfUptoCard : Claim7 := { stood := { row := nnfOfUptoRow, standIns := [], harness := (true, "74aaaffee01377bb8532d0f4e763cfd570779a8057e1d906830fb13faa4fe51e"), looks := false }, kinds := [], alts := [], laidByText := true, laidKinds := [.data], laidTests := true, laidLooks := .later }
def NnfOfUptoCardSaid : Prop := Claim7.holds Tryd.pinned (.plain (OpenSpec.upto nnfOfSpec)) nnfOfUptoCard

/-- THE SECOND FORM's CARD OF 'lariatlaw25.NnfIs'. -/
def nnfIsUptoCard : Claim7 := { stood := { row := nnfIsUptoRow, standIns := [], harness := (true, "74aaaffee01377bb8532d0f4e763cfd570779a8057e1d906830fb13faa4fe51e"), looks := false }, kinds := [], alts := [], laidByText := true, laidKinds := [.data], laidTests := true, laidLooks := .later }
def NnfIsUptoCardSaid : Prop := Claim7.holds Tryd.pinned (.plain (OpenSpec.upto nnfIsSpec)) nnfIsUptoCard

/-- THE SECOND FORM's CARD OF 'lariatlaw25.NnfStays'. -/
def nnfStaysUptoCard : Claim7 := { stood := { row := nnfStaysUptoRow, standIns := [], harness := (true, "74aaaffee01377bb8532d0f4e763cfd570779a8057e1d906830fb13faa4fe51e"), looks := false }, kinds := [], alts := [], laidByText := true, laidKinds := [.data], laidTests := true, laidLooks := .later }
def NnfStaysUptoCardSaid : Prop := Claim7.holds Tryd.pinned (.plain (OpenSpec.upto nnfStaysSpec)) nnfStaysUptoCard

/-- THE SECOND FORM's CARD OF 'lariatlaw25.NnfWords'. -/
def nnfWordsUptoCard : Claim7 := { stood := { row := nnfWordsUptoRow, standIns := [], harness := (true, "74aaaffee01377bb8532d0f4e763cfd570779a8057e1d906830fb13faa4fe51e"), looks := false }, kinds := [], alts := [], laidByText := true, laidKinds := [.data], laidTests := true, laidLooks := .later }
def NnfWordsUptoCardSaid : Prop := Claim7.holds Tryd.pinned (.plain (OpenSpec.upto nnfWordsSpec)) nnfWordsUptoCard

/-- THE SECOND FORM's CARD OF 'lariatlaw25.NnfPlaces'. -/
def nnfPlacesUptoCard : Claim7 := { stood := { row := nnfPlacesUptoRow, standIns := [], harness := (true, "74aaaffee01377bb8532d0f4e763cfd570779a8057e1d906830fb13faa4fe51e"), looks := false }, kinds := [], alts := [], laidByText := true, laidKinds := [.data], laidTests := true, laidLooks := .later }
def NnfPlacesUptoCardSaid : Prop := Claim7.holds Tryd.pinned (.plain (OpenSpec.upto nnfPlacesSpec)) nnfPlacesUptoCard

/-- THE SECOND FORM's CARD OF 'lariatlaw25.NnfNots'. -/
def nnfNotsUptoCard : Claim7 := { stood := { row := nnfNotsUptoRow, standIns := [], harness := (true, "74aaaffee01377bb8532d0f4e763cfd570779a8057e1d906830fb13faa4fe51e"), looks := false }, kinds := [], alts := [], laidByText := true, laidKinds := [.data], laidTests := true, laidLooks := .later }
def NnfNotsUptoCardSaid : Prop := Claim7.holds Tryd.pinned (.plain (OpenSpec.upto nnfNotsSpec)) nnfNotsUptoCard
end Rows
end Go.Proofs.YtmdfiamffipbcaaDoor
