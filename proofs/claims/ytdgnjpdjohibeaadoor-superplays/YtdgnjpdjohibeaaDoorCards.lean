/-
  DERIVED. GIVEN WITH THE SEED: THE CARDS: each row of YtdgnjpdjohibeaaDoorRows.lean that lists a variable, with what it lists TIED to the program's text (the seventh form; the later family's looks); each row that meets fmt, with fmt's text TOLD by the authors' own Lean function (tested against real Go, not proved from fmt's source: count such statements apart). THE CARD IS WHAT COUNTS. Prove the row's statement (the work); the ties are given (YtdgnjpdjohibeaaDoorTie.lean); close each card by the builder's one call (the guide's Derived/Test/ToyasCard.lean, 'card_holds'). Laid BY PROGRAM, IN A SANDBOX (cutbox-door.mjs). By AI agents, Wed Nov 11 2026. No macro, syntax, notation, axiom, sorry.
-/
import Derived.Test.YtdgnjpdjohibeaaDoorRows
import GoSem.ClaimSeven
namespace Go.Proofs.YtdgnjpdjohibeaaDoor
namespace Rows

/-- THE TIED CARD OF 'codexlaw07.SuperCodes'. -/
def superCodesCard : Claim7 := { stood := { row := superCodesRow, standIns := [], harness := (true, "887db28b7d9ff6ed3376d5720dda3660d3409fd7fd594c75b678b2a343509160"), looks := false }, kinds := [], alts := [], laidByText := true, laidKinds := [.data, .data], laidTests := true, laidLooks := .later }
def SuperCodesCardSaid : Prop := Claim7.holds Tryd.pinned (.plain (OpenSpec.ofChange superCodesSpec)) superCodesCard

/-- THE TIED CARD OF 'codexlaw07.SuperPlays'. -/
def superPlaysCard : Claim7 := { stood := { row := superPlaysRow, standIns := [], harness := (true, "887db28b7d9ff6ed3376d5720dda3660d3409fd7fd594c75b678b2a343509160"), looks := false }, kinds := [], alts := [], laidByText := true, laidKinds := [.data, .data], laidTests := true, laidLooks := .later }
def SuperPlaysCardSaid : Prop := Claim7.holds Tryd.pinned (.plain (OpenSpec.ofChange superPlaysSpec)) superPlaysCard

/-- THE TIED CARD OF 'codexlaw07.SuperTorn'. -/
def superTornCard : Claim7 := { stood := { row := superTornRow, standIns := [], harness := (true, "887db28b7d9ff6ed3376d5720dda3660d3409fd7fd594c75b678b2a343509160"), looks := false }, kinds := [], alts := [], laidByText := true, laidKinds := [.data, .data], laidTests := true, laidLooks := .later }
def SuperTornCardSaid : Prop := Claim7.holds Tryd.pinned (.plain (OpenSpec.ofChange superTornSpec)) superTornCard

/-- THE TIED CARD OF 'codexlaw07.SuperNone'. -/
def superNoneCard : Claim7 := { stood := { row := superNoneRow, standIns := [], harness := (true, "887db28b7d9ff6ed3376d5720dda3660d3409fd7fd594c75b678b2a343509160"), looks := false }, kinds := [], alts := [], laidByText := true, laidKinds := [.data, .data], laidTests := true, laidLooks := .later }
def SuperNoneCardSaid : Prop := Claim7.holds Tryd.pinned (.plain (OpenSpec.ofChange superNoneSpec)) superNoneCard

/-- THE TIED CARD OF 'codexlaw07.SuperPlaces'. -/
def superPlacesCard : Claim7 := { stood := { row := superPlacesRow, standIns := [], harness := (true, "887db28b7d9ff6ed3376d5720dda3660d3409fd7fd594c75b678b2a343509160"), looks := false }, kinds := [], alts := [], laidByText := true, laidKinds := [.data, .data], laidTests := true, laidLooks := .later }
def SuperPlacesCardSaid : Prop := Claim7.holds Tryd.pinned (.plain (OpenSpec.ofChange superPlacesSpec)) superPlacesCard

/-- THE TIED CARD OF 'codexlaw07.SuperTurns'. -/
def superTurnsCard : Claim7 := { stood := { row := superTurnsRow, standIns := [], harness := (true, "887db28b7d9ff6ed3376d5720dda3660d3409fd7fd594c75b678b2a343509160"), looks := false }, kinds := [], alts := [], laidByText := true, laidKinds := [.data, .data], laidTests := true, laidLooks := .later }
def SuperTurnsCardSaid : Prop := Claim7.holds Tryd.pinned (.plain (OpenSpec.ofChange superTurnsSpec)) superTurnsCard

/-- THE TIED CARD OF 'codexlaw07.SuperUsed'. -/
def superUsedCard : Claim7 := { stood := { row := superUsedRow, standIns := [], harness := (true, "887db28b7d9ff6ed3376d5720dda3660d3409fd7fd594c75b678b2a343509160"), looks := false }, kinds := [], alts := [], laidByText := true, laidKinds := [.data, .data], laidTests := true, laidLooks := .later }
def SuperUsedCardSaid : Prop := Claim7.holds Tryd.pinned (.plain (OpenSpec.ofChange superUsedSpec)) superUsedCard

/-- THE SECOND FORM's CARD OF 'codexlaw07.SuperCodes'. -/
def superCodesUptoCard : Claim7 := { stood := { row := superCodesUptoRow, standIns := [], harness := (true, "887db28b7d9ff6ed3376d5720dda3660d3409fd7fd594c75b678b2a343509160"), looks := false }, kinds := [], alts := [], laidByText := true, laidKinds := [.data, .data], laidTests := true, laidLooks := .later }
def SuperCodesUptoCardSaid : Prop := Claim7.holds Tryd.pinned (.plain (OpenSpec.upto superCodesSpec)) superCodesUptoCard

/-- THE SECOND FORM's CARD OF 'codexlaw07.SuperPlays'. -/
def superPlaysUptoCard : Claim7 := { stood := { row := superPlaysUptoRow, standIns := [], harness := (true, "887db28b7d9ff6ed3376d5720dda3660d3409fd7fd594c75b678b2a343509160"), looks := false }, kinds := [], alts := [], laidByText := true, laidKinds := [.data, .data], laidTests := true, laidLooks := .later }
def SuperPlaysUptoCardSaid : Prop := Claim7.holds Tryd.pinned (.plain (OpenSpec.upto superPlaysSpec)) superPlaysUptoCard

/-- THE SECOND FORM's CARD OF 'codexlaw07.SuperTorn'. -/
def superTornUptoCard : Claim7 := { stood := { row := superTornUptoRow, standIns := [], harness := (true, "887db28b7d9ff6ed3376d5720dda3660d3409fd7fd594c75b678b2a343509160"), looks := false }, kinds := [], alts := [], laidByText := true, laidKinds := [.data, .data], laidTests := true, laidLooks := .later }
def SuperTornUptoCardSaid : Prop := Claim7.holds Tryd.pinned (.plain (OpenSpec.upto superTornSpec)) superTornUptoCard

/-- THE SECOND FORM's CARD OF 'codexlaw07.SuperNone'. -/
def superNoneUptoCard : Claim7 := { stood := { row := superNoneUptoRow, standIns := [], harness := (true, "887db28b7d9ff6ed3376d5720dda3660d3409fd7fd594c75b678b2a343509160"), looks := false }, kinds := [], alts := [], laidByText := true, laidKinds := [.data, .data], laidTests := true, laidLooks := .later }
def SuperNoneUptoCardSaid : Prop := Claim7.holds Tryd.pinned (.plain (OpenSpec.upto superNoneSpec)) superNoneUptoCard

/-- THE SECOND FORM's CARD OF 'codexlaw07.SuperPlaces'. -/
def superPlacesUptoCard : Claim7 := { stood := { row := superPlacesUptoRow, standIns := [], harness := (true, "887db28b7d9ff6ed3376d5720dda3660d3409fd7fd594c75b678b2a343509160"), looks := false }, kinds := [], alts := [], laidByText := true, laidKinds := [.data, .data], laidTests := true, laidLooks := .later }
def SuperPlacesUptoCardSaid : Prop := Claim7.holds Tryd.pinned (.plain (OpenSpec.upto superPlacesSpec)) superPlacesUptoCard

/-- THE SECOND FORM's CARD OF 'codexlaw07.SuperTurns'. -/
def superTurnsUptoCard : Claim7 := { stood := { row := superTurnsUptoRow, standIns := [], harness := (true, "887db28b7d9ff6ed3376d5720dda3660d3409fd7fd594c75b678b2a343509160"), looks := false }, kinds := [], alts := [], laidByText := true, laidKinds := [.data, .data], laidTests := true, laidLooks := .later }
def SuperTurnsUptoCardSaid : Prop := Claim7.holds Tryd.pinned (.plain (OpenSpec.upto superTurnsSpec)) superTurnsUptoCard

/-- THE SECOND FORM's CARD OF 'codexlaw07.SuperUsed'. -/
def superUsedUptoCard : Claim7 := { stood := { row := superUsedUptoRow, standIns := [], harness := (true, "887db28b7d9ff6ed3376d5720dda3660d3409fd7fd594c75b678b2a343509160"), looks := false }, kinds := [], alts := [], laidByText := true, laidKinds := [.data, .data], laidTests := true, laidLooks := .later }
def SuperUsedUptoCardSaid : Prop := Claim7.holds Tryd.pinned (.plain (OpenSpec.upto superUsedSpec)) superUsedUptoCard
end Rows
end Go.Proofs.YtdgnjpdjohibeaaDoor
