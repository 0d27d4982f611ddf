/-
  DERIVED. GIVEN WITH THE SEED: THE CARDS: each row of YthngaegfppbdmaaDoorRows.lean that lists a variable, with what it lists TIED to the program's text (the seventh form; the later family's looks); each row that meets fmt, with fmt's text TOLD by the authors' own Lean function (tested against real Go, not proved from fmt's source: count such statements apart). THE CARD IS WHAT COUNTS. Prove the row's statement (the work); the ties are given (YthngaegfppbdmaaDoorTie.lean); close each card by the builder's one call (the guide's Derived/Test/ToyasCard.lean, 'card_holds'). Laid BY PROGRAM, IN A SANDBOX (cutbox-door.mjs). By AI agents, Wed Nov 11 2026. No macro, syntax, notation, axiom, sorry.
-/
import Derived.Test.YthngaegfppbdmaaDoorRows
import GoSem.ClaimSeven
namespace Go.Proofs.YthngaegfppbdmaaDoor
namespace Rows

/-- THE TIED CARD OF 'codexlaw05.LeafCodes'. -/
def leafCodesCard : Claim7 := { stood := { row := leafCodesRow, standIns := [], harness := (true, "29eab4c0584e0ff0f29a2bc5eda2836be9762d2cd07b6e05e63ff534e38a8a5d"), looks := false }, kinds := [], alts := [], laidByText := true, laidKinds := [.data, .data], laidTests := true, laidLooks := .later }
def LeafCodesCardSaid : Prop := Claim7.holds Tryd.pinned (.plain (OpenSpec.ofChange leafCodesSpec)) leafCodesCard

/-- THE TIED CARD OF 'codexlaw05.LeafBack'. -/
def leafBackCard : Claim7 := { stood := { row := leafBackRow, standIns := [], harness := (true, "29eab4c0584e0ff0f29a2bc5eda2836be9762d2cd07b6e05e63ff534e38a8a5d"), looks := false }, kinds := [], alts := [], laidByText := true, laidKinds := [.data, .data], laidTests := true, laidLooks := .later }
def LeafBackCardSaid : Prop := Claim7.holds Tryd.pinned (.plain (OpenSpec.ofChange leafBackSpec)) leafBackCard

/-- THE TIED CARD OF 'codexlaw05.LeafPlaces'. -/
def leafPlacesCard : Claim7 := { stood := { row := leafPlacesRow, standIns := [], harness := (true, "29eab4c0584e0ff0f29a2bc5eda2836be9762d2cd07b6e05e63ff534e38a8a5d"), looks := false }, kinds := [], alts := [], laidByText := true, laidKinds := [.data, .data], laidTests := true, laidLooks := .later }
def LeafPlacesCardSaid : Prop := Claim7.holds Tryd.pinned (.plain (OpenSpec.ofChange leafPlacesSpec)) leafPlacesCard

/-- THE TIED CARD OF 'codexlaw05.LeafTurns'. -/
def leafTurnsCard : Claim7 := { stood := { row := leafTurnsRow, standIns := [], harness := (true, "29eab4c0584e0ff0f29a2bc5eda2836be9762d2cd07b6e05e63ff534e38a8a5d"), looks := false }, kinds := [], alts := [], laidByText := true, laidKinds := [.data, .data], laidTests := true, laidLooks := .later }
def LeafTurnsCardSaid : Prop := Claim7.holds Tryd.pinned (.plain (OpenSpec.ofChange leafTurnsSpec)) leafTurnsCard

/-- THE TIED CARD OF 'codexlaw05.LeafOrder'. -/
def leafOrderCard : Claim7 := { stood := { row := leafOrderRow, standIns := [], harness := (true, "29eab4c0584e0ff0f29a2bc5eda2836be9762d2cd07b6e05e63ff534e38a8a5d"), looks := false }, kinds := [], alts := [], laidByText := true, laidKinds := [.data, .data], laidTests := true, laidLooks := .later }
def LeafOrderCardSaid : Prop := Claim7.holds Tryd.pinned (.plain (OpenSpec.ofChange leafOrderSpec)) leafOrderCard

/-- THE TIED CARD OF 'codexlaw06.IndexTells'. -/
def indexTellsCard : Claim7 := { stood := { row := indexTellsRow, standIns := [], harness := (true, "29eab4c0584e0ff0f29a2bc5eda2836be9762d2cd07b6e05e63ff534e38a8a5d"), looks := false }, kinds := [], alts := [], laidByText := true, laidKinds := [.data, .data], laidTests := true, laidLooks := .later }
def IndexTellsCardSaid : Prop := Claim7.holds Tryd.pinned (.plain (OpenSpec.ofChange indexTellsSpec)) indexTellsCard

/-- THE TIED CARD OF 'codexlaw06.IndexBack'. -/
def indexBackCard : Claim7 := { stood := { row := indexBackRow, standIns := [], harness := (true, "29eab4c0584e0ff0f29a2bc5eda2836be9762d2cd07b6e05e63ff534e38a8a5d"), looks := false }, kinds := [], alts := [], laidByText := true, laidKinds := [.data, .data], laidTests := true, laidLooks := .later }
def IndexBackCardSaid : Prop := Claim7.holds Tryd.pinned (.plain (OpenSpec.ofChange indexBackSpec)) indexBackCard

/-- THE TIED CARD OF 'codexlaw06.IndexKeeps'. -/
def indexKeepsCard : Claim7 := { stood := { row := indexKeepsRow, standIns := [], harness := (true, "29eab4c0584e0ff0f29a2bc5eda2836be9762d2cd07b6e05e63ff534e38a8a5d"), looks := false }, kinds := [], alts := [], laidByText := true, laidKinds := [.data, .data], laidTests := true, laidLooks := .later }
def IndexKeepsCardSaid : Prop := Claim7.holds Tryd.pinned (.plain (OpenSpec.ofChange indexKeepsSpec)) indexKeepsCard

/-- THE TIED CARD OF 'codexlaw06.IndexOrder'. -/
def indexOrderCard : Claim7 := { stood := { row := indexOrderRow, standIns := [], harness := (true, "29eab4c0584e0ff0f29a2bc5eda2836be9762d2cd07b6e05e63ff534e38a8a5d"), looks := false }, kinds := [], alts := [], laidByText := true, laidKinds := [.data, .data], laidTests := true, laidLooks := .later }
def IndexOrderCardSaid : Prop := Claim7.holds Tryd.pinned (.plain (OpenSpec.ofChange indexOrderSpec)) indexOrderCard

/-- THE TIED CARD OF 'codexlaw06.IndexSizes'. -/
def indexSizesCard : Claim7 := { stood := { row := indexSizesRow, standIns := [], harness := (true, "29eab4c0584e0ff0f29a2bc5eda2836be9762d2cd07b6e05e63ff534e38a8a5d"), looks := false }, kinds := [], alts := [], laidByText := true, laidKinds := [.data, .data], laidTests := true, laidLooks := .later }
def IndexSizesCardSaid : Prop := Claim7.holds Tryd.pinned (.plain (OpenSpec.ofChange indexSizesSpec)) indexSizesCard

/-- THE TIED CARD OF 'codexlaw06.IndexApart'. -/
def indexApartCard : Claim7 := { stood := { row := indexApartRow, standIns := [], harness := (true, "29eab4c0584e0ff0f29a2bc5eda2836be9762d2cd07b6e05e63ff534e38a8a5d"), looks := false }, kinds := [], alts := [], laidByText := true, laidKinds := [.data, .data], laidTests := true, laidLooks := .later }
def IndexApartCardSaid : Prop := Claim7.holds Tryd.pinned (.plain (OpenSpec.ofChange indexApartSpec)) indexApartCard

/-- THE SECOND FORM's CARD OF 'codexlaw05.LeafCodes'. -/
def leafCodesUptoCard : Claim7 := { stood := { row := leafCodesUptoRow, standIns := [], harness := (true, "29eab4c0584e0ff0f29a2bc5eda2836be9762d2cd07b6e05e63ff534e38a8a5d"), looks := false }, kinds := [], alts := [], laidByText := true, laidKinds := [.data, .data], laidTests := true, laidLooks := .later }
def LeafCodesUptoCardSaid : Prop := Claim7.holds Tryd.pinned (.plain (OpenSpec.upto leafCodesSpec)) leafCodesUptoCard

/-- THE SECOND FORM's CARD OF 'codexlaw05.LeafBack'. -/
def leafBackUptoCard : Claim7 := { stood := { row := leafBackUptoRow, standIns := [], harness := (true, "29eab4c0584e0ff0f29a2bc5eda2836be9762d2cd07b6e05e63ff534e38a8a5d"), looks := false }, kinds := [], alts := [], laidByText := true, laidKinds := [.data, .data], laidTests := true, laidLooks := .later }
def LeafBackUptoCardSaid : Prop := Claim7.holds Tryd.pinned (.plain (OpenSpec.upto leafBackSpec)) leafBackUptoCard

/-- THE SECOND FORM's CARD OF 'codexlaw05.LeafPlaces'. -/
def leafPlacesUptoCard : Claim7 := { stood := { row := leafPlacesUptoRow, standIns := [], harness := (true, "29eab4c0584e0ff0f29a2bc5eda2836be9762d2cd07b6e05e63ff534e38a8a5d"), looks := false }, kinds := [], alts := [], laidByText := true, laidKinds := [.data, .data], laidTests := true, laidLooks := .later }
def LeafPlacesUptoCardSaid : Prop := Claim7.holds Tryd.pinned (.plain (OpenSpec.upto leafPlacesSpec)) leafPlacesUptoCard

/-- THE SECOND FORM's CARD OF 'codexlaw05.LeafTurns'. -/
def leafTurnsUptoCard : Claim7 := { stood := { row := leafTurnsUptoRow, standIns := [], harness := (true, "29eab4c0584e0ff0f29a2bc5eda2836be9762d2cd07b6e05e63ff534e38a8a5d"), looks := false }, kinds := [], alts := [], laidByText := true, laidKinds := [.data, .data], laidTests := true, laidLooks := .later }
def LeafTurnsUptoCardSaid : Prop := Claim7.holds Tryd.pinned (.plain (OpenSpec.upto leafTurnsSpec)) leafTurnsUptoCard

/-- THE SECOND FORM's CARD OF 'codexlaw05.LeafOrder'. -/
def leafOrderUptoCard : Claim7 := { stood := { row := leafOrderUptoRow, standIns := [], harness := (true, "29eab4c0584e0ff0f29a2bc5eda2836be9762d2cd07b6e05e63ff534e38a8a5d"), looks := false }, kinds := [], alts := [], laidByText := true, laidKinds := [.data, .data], laidTests := true, laidLooks := .later }
def LeafOrderUptoCardSaid : Prop := Claim7.holds Tryd.pinned (.plain (OpenSpec.upto leafOrderSpec)) leafOrderUptoCard

/-- THE SECOND FORM's CARD OF 'codexlaw06.IndexTells'. -/
def indexTellsUptoCard : Claim7 := { stood := { row := indexTellsUptoRow, standIns := [], harness := (true, "29eab4c0584e0ff0f29a2bc5eda2836be9762d2cd07b6e05e63ff534e38a8a5d"), looks := false }, kinds := [], alts := [], laidByText := true, laidKinds := [.data, .data], laidTests := true, laidLooks := .later }
def IndexTellsUptoCardSaid : Prop := Claim7.holds Tryd.pinned (.plain (OpenSpec.upto indexTellsSpec)) indexTellsUptoCard

/-- THE SECOND FORM's CARD OF 'codexlaw06.IndexBack'. -/
def indexBackUptoCard : Claim7 := { stood := { row := indexBackUptoRow, standIns := [], harness := (true, "29eab4c0584e0ff0f29a2bc5eda2836be9762d2cd07b6e05e63ff534e38a8a5d"), looks := false }, kinds := [], alts := [], laidByText := true, laidKinds := [.data, .data], laidTests := true, laidLooks := .later }
def IndexBackUptoCardSaid : Prop := Claim7.holds Tryd.pinned (.plain (OpenSpec.upto indexBackSpec)) indexBackUptoCard

/-- THE SECOND FORM's CARD OF 'codexlaw06.IndexKeeps'. -/
def indexKeepsUptoCard : Claim7 := { stood := { row := indexKeepsUptoRow, standIns := [], harness := (true, "29eab4c0584e0ff0f29a2bc5eda2836be9762d2cd07b6e05e63ff534e38a8a5d"), looks := false }, kinds := [], alts := [], laidByText := true, laidKinds := [.data, .data], laidTests := true, laidLooks := .later }
def IndexKeepsUptoCardSaid : Prop := Claim7.holds Tryd.pinned (.plain (OpenSpec.upto indexKeepsSpec)) indexKeepsUptoCard

/-- THE SECOND FORM's CARD OF 'codexlaw06.IndexOrder'. -/
def indexOrderUptoCard : Claim7 := { stood := { row := indexOrderUptoRow, standIns := [], harness := (true, "29eab4c0584e0ff0f29a2bc5eda2836be9762d2cd07b6e05e63ff534e38a8a5d"), looks := false }, kinds := [], alts := [], laidByText := true, laidKinds := [.data, .data], laidTests := true, laidLooks := .later }
def IndexOrderUptoCardSaid : Prop := Claim7.holds Tryd.pinned (.plain (OpenSpec.upto indexOrderSpec)) indexOrderUptoCard

/-- THE SECOND FORM's CARD OF 'codexlaw06.IndexSizes'. -/
def indexSizesUptoCard : Claim7 := { stood := { row := indexSizesUptoRow, standIns := [], harness := (true, "29eab4c0584e0ff0f29a2bc5eda2836be9762d2cd07b6e05e63ff534e38a8a5d"), looks := false }, kinds := [], alts := [], laidByText := true, laidKinds := [.data, .data], laidTests := true, laidLooks := .later }
def IndexSizesUptoCardSaid : Prop := Claim7.holds Tryd.pinned (.plain (OpenSpec.upto indexSizesSpec)) indexSizesUptoCard

/-- THE SECOND FORM's CARD OF 'codexlaw06.IndexApart'. -/
def indexApartUptoCard : Claim7 := { stood := { row := indexApartUptoRow, standIns := [], harness := (true, "29eab4c0584e0ff0f29a2bc5eda2836be9762d2cd07b6e05e63ff534e38a8a5d"), looks := false }, kinds := [], alts := [], laidByText := true, laidKinds := [.data, .data], laidTests := true, laidLooks := .later }
def IndexApartUptoCardSaid : Prop := Claim7.holds Tryd.pinned (.plain (OpenSpec.upto indexApartSpec)) indexApartUptoCard
end Rows
end Go.Proofs.YthngaegfppbdmaaDoor
