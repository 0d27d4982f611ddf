/-
  DERIVED. GIVEN WITH THE SEED: THE CARDS: each row of YtnocpnpjjiodiaaDoorRows.lean that lists a variable, with what it lists TIED to the program's text (the seventh form; the later family's looks); each row that meets fmt, with fmt's text TOLD by the authors' own Lean function (tested against real Go, not proved from fmt's source: count such statements apart). THE CARD IS WHAT COUNTS. Prove the row's statement (the work); the ties are given (YtnocpnpjjiodiaaDoorTie.lean); close each card by the builder's one call (the guide's Derived/Test/ToyasCard.lean, 'card_holds'). Laid BY PROGRAM, IN A SANDBOX (cutbox-door.mjs). By AI agents, Wed Nov 11 2026. No macro, syntax, notation, axiom, sorry.
-/
import Derived.Test.YtnocpnpjjiodiaaDoorRows
import GoSem.ClaimSeven
namespace Go.Proofs.YtnocpnpjjiodiaaDoor
namespace Rows

/-- THE TIED CARD OF 'codexlaw02.ShaTells'. -/
def shaTellsCard : Claim7 := { stood := { row := shaTellsRow, standIns := [], harness := (true, "b1779e97a2f157f9693bf4fcffd6fe16d0785aa28ad8f0ccf2663b9b9ca269ca"), looks := false }, kinds := [], alts := [], laidByText := true, laidKinds := [.data, .data], laidTests := true, laidLooks := .later }
def ShaTellsCardSaid : Prop := Claim7.holds Tryd.pinned (.plain (OpenSpec.ofChange shaTellsSpec)) shaTellsCard

/-- THE TIED CARD OF 'codexlaw02.ShaOrder'. -/
def shaOrderCard : Claim7 := { stood := { row := shaOrderRow, standIns := [], harness := (true, "b1779e97a2f157f9693bf4fcffd6fe16d0785aa28ad8f0ccf2663b9b9ca269ca"), looks := false }, kinds := [], alts := [], laidByText := true, laidKinds := [.data, .data], laidTests := true, laidLooks := .later }
def ShaOrderCardSaid : Prop := Claim7.holds Tryd.pinned (.plain (OpenSpec.ofChange shaOrderSpec)) shaOrderCard

/-- THE TIED CARD OF 'codexlaw02.ShaKinds'. -/
def shaKindsCard : Claim7 := { stood := { row := shaKindsRow, standIns := [], harness := (true, "b1779e97a2f157f9693bf4fcffd6fe16d0785aa28ad8f0ccf2663b9b9ca269ca"), looks := false }, kinds := [], alts := [], laidByText := true, laidKinds := [.data, .data], laidTests := true, laidLooks := .later }
def ShaKindsCardSaid : Prop := Claim7.holds Tryd.pinned (.plain (OpenSpec.ofChange shaKindsSpec)) shaKindsCard

/-- THE SECOND FORM's CARD OF 'codexlaw02.ShaTells'. -/
def shaTellsUptoCard : Claim7 := { stood := { row := shaTellsUptoRow, standIns := [], harness := (true, "b1779e97a2f157f9693bf4fcffd6fe16d0785aa28ad8f0ccf2663b9b9ca269ca"), looks := false }, kinds := [], alts := [], laidByText := true, laidKinds := [.data, .data], laidTests := true, laidLooks := .later }
def ShaTellsUptoCardSaid : Prop := Claim7.holds Tryd.pinned (.plain (OpenSpec.upto shaTellsSpec)) shaTellsUptoCard

/-- THE SECOND FORM's CARD OF 'codexlaw02.ShaOrder'. -/
def shaOrderUptoCard : Claim7 := { stood := { row := shaOrderUptoRow, standIns := [], harness := (true, "b1779e97a2f157f9693bf4fcffd6fe16d0785aa28ad8f0ccf2663b9b9ca269ca"), looks := false }, kinds := [], alts := [], laidByText := true, laidKinds := [.data, .data], laidTests := true, laidLooks := .later }
def ShaOrderUptoCardSaid : Prop := Claim7.holds Tryd.pinned (.plain (OpenSpec.upto shaOrderSpec)) shaOrderUptoCard

/-- THE SECOND FORM's CARD OF 'codexlaw02.ShaKinds'. -/
def shaKindsUptoCard : Claim7 := { stood := { row := shaKindsUptoRow, standIns := [], harness := (true, "b1779e97a2f157f9693bf4fcffd6fe16d0785aa28ad8f0ccf2663b9b9ca269ca"), looks := false }, kinds := [], alts := [], laidByText := true, laidKinds := [.data, .data], laidTests := true, laidLooks := .later }
def ShaKindsUptoCardSaid : Prop := Claim7.holds Tryd.pinned (.plain (OpenSpec.upto shaKindsSpec)) shaKindsUptoCard
end Rows
end Go.Proofs.YtnocpnpjjiodiaaDoor
