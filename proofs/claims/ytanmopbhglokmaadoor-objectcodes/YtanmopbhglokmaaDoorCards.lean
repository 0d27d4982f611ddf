/-
  DERIVED. GIVEN WITH THE SEED: THE CARDS: each row of YtanmopbhglokmaaDoorRows.lean that lists a variable, with what it lists TIED to the program's text (the seventh form; the later family's looks); each row that meets fmt, with fmt's text TOLD by the authors' own Lean function (tested against real Go, not proved from fmt's source: count such statements apart). THE CARD IS WHAT COUNTS. Prove the row's statement (the work); the ties are given (YtanmopbhglokmaaDoorTie.lean); close each card by the builder's one call (the guide's Derived/Test/ToyasCard.lean, 'card_holds'). Laid BY PROGRAM, IN A SANDBOX (cutbox-door.mjs). By AI agents, Wed Nov 11 2026. No macro, syntax, notation, axiom, sorry.
-/
import Derived.Test.YtanmopbhglokmaaDoorRows
import GoSem.ClaimSeven
namespace Go.Proofs.YtanmopbhglokmaaDoor
namespace Rows

/-- THE TIED CARD OF 'codexlaw03.ObjectCodes'. -/
def objectCodesCard : Claim7 := { stood := { row := objectCodesRow, standIns := [], harness := (true, "caf5cb6c7a0674d4b2b8f7b1747606388e8dc2605fcf06f8508ddb0d3de86e6e"), looks := false }, kinds := [], alts := [], laidByText := true, laidKinds := [.data, .data], laidTests := true, laidLooks := .later }
def ObjectCodesCardSaid : Prop := Claim7.holds Tryd.pinned (.plain (OpenSpec.ofChange objectCodesSpec)) objectCodesCard

/-- THE TIED CARD OF 'codexlaw03.ObjectBack'. -/
def objectBackCard : Claim7 := { stood := { row := objectBackRow, standIns := [], harness := (true, "caf5cb6c7a0674d4b2b8f7b1747606388e8dc2605fcf06f8508ddb0d3de86e6e"), looks := false }, kinds := [], alts := [], laidByText := true, laidKinds := [.data, .data], laidTests := true, laidLooks := .later }
def ObjectBackCardSaid : Prop := Claim7.holds Tryd.pinned (.plain (OpenSpec.ofChange objectBackSpec)) objectBackCard

/-- THE TIED CARD OF 'codexlaw03.ObjectTurns'. -/
def objectTurnsCard : Claim7 := { stood := { row := objectTurnsRow, standIns := [], harness := (true, "caf5cb6c7a0674d4b2b8f7b1747606388e8dc2605fcf06f8508ddb0d3de86e6e"), looks := false }, kinds := [], alts := [], laidByText := true, laidKinds := [.data, .data], laidTests := true, laidLooks := .later }
def ObjectTurnsCardSaid : Prop := Claim7.holds Tryd.pinned (.plain (OpenSpec.ofChange objectTurnsSpec)) objectTurnsCard

/-- THE TIED CARD OF 'codexlaw03.ObjectSizes'. -/
def objectSizesCard : Claim7 := { stood := { row := objectSizesRow, standIns := [], harness := (true, "caf5cb6c7a0674d4b2b8f7b1747606388e8dc2605fcf06f8508ddb0d3de86e6e"), looks := false }, kinds := [], alts := [], laidByText := true, laidKinds := [.data, .data], laidTests := true, laidLooks := .later }
def ObjectSizesCardSaid : Prop := Claim7.holds Tryd.pinned (.plain (OpenSpec.ofChange objectSizesSpec)) objectSizesCard

/-- THE TIED CARD OF 'codexlaw03.ObjectKinds'. -/
def objectKindsCard : Claim7 := { stood := { row := objectKindsRow, standIns := [], harness := (true, "caf5cb6c7a0674d4b2b8f7b1747606388e8dc2605fcf06f8508ddb0d3de86e6e"), looks := false }, kinds := [], alts := [], laidByText := true, laidKinds := [.data, .data], laidTests := true, laidLooks := .later }
def ObjectKindsCardSaid : Prop := Claim7.holds Tryd.pinned (.plain (OpenSpec.ofChange objectKindsSpec)) objectKindsCard

/-- THE SECOND FORM's CARD OF 'codexlaw03.ObjectCodes'. -/
def objectCodesUptoCard : Claim7 := { stood := { row := objectCodesUptoRow, standIns := [], harness := (true, "caf5cb6c7a0674d4b2b8f7b1747606388e8dc2605fcf06f8508ddb0d3de86e6e"), looks := false }, kinds := [], alts := [], laidByText := true, laidKinds := [.data, .data], laidTests := true, laidLooks := .later }
def ObjectCodesUptoCardSaid : Prop := Claim7.holds Tryd.pinned (.plain (OpenSpec.upto objectCodesSpec)) objectCodesUptoCard

/-- THE SECOND FORM's CARD OF 'codexlaw03.ObjectBack'. -/
def objectBackUptoCard : Claim7 := { stood := { row := objectBackUptoRow, standIns := [], harness := (true, "caf5cb6c7a0674d4b2b8f7b1747606388e8dc2605fcf06f8508ddb0d3de86e6e"), looks := false }, kinds := [], alts := [], laidByText := true, laidKinds := [.data, .data], laidTests := true, laidLooks := .later }
def ObjectBackUptoCardSaid : Prop := Claim7.holds Tryd.pinned (.plain (OpenSpec.upto objectBackSpec)) objectBackUptoCard

/-- THE SECOND FORM's CARD OF 'codexlaw03.ObjectTurns'. -/
def objectTurnsUptoCard : Claim7 := { stood := { row := objectTurnsUptoRow, standIns := [], harness := (true, "caf5cb6c7a0674d4b2b8f7b1747606388e8dc2605fcf06f8508ddb0d3de86e6e"), looks := false }, kinds := [], alts := [], laidByText := true, laidKinds := [.data, .data], laidTests := true, laidLooks := .later }
def ObjectTurnsUptoCardSaid : Prop := Claim7.holds Tryd.pinned (.plain (OpenSpec.upto objectTurnsSpec)) objectTurnsUptoCard

/-- THE SECOND FORM's CARD OF 'codexlaw03.ObjectSizes'. -/
def objectSizesUptoCard : Claim7 := { stood := { row := objectSizesUptoRow, standIns := [], harness := (true, "caf5cb6c7a0674d4b2b8f7b1747606388e8dc2605fcf06f8508ddb0d3de86e6e"), looks := false }, kinds := [], alts := [], laidByText := true, laidKinds := [.data, .data], laidTests := true, laidLooks := .later }
def ObjectSizesUptoCardSaid : Prop := Claim7.holds Tryd.pinned (.plain (OpenSpec.upto objectSizesSpec)) objectSizesUptoCard

/-- THE SECOND FORM's CARD OF 'codexlaw03.ObjectKinds'. -/
def objectKindsUptoCard : Claim7 := { stood := { row := objectKindsUptoRow, standIns := [], harness := (true, "caf5cb6c7a0674d4b2b8f7b1747606388e8dc2605fcf06f8508ddb0d3de86e6e"), looks := false }, kinds := [], alts := [], laidByText := true, laidKinds := [.data, .data], laidTests := true, laidLooks := .later }
def ObjectKindsUptoCardSaid : Prop := Claim7.holds Tryd.pinned (.plain (OpenSpec.upto objectKindsSpec)) objectKindsUptoCard
end Rows
end Go.Proofs.YtanmopbhglokmaaDoor
