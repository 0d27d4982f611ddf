/-
  DERIVED. GIVEN WITH THE SEED: THE CARDS: each row of YtcfimggnmcnkhaaDoorRows.lean that lists a variable, with what it lists TIED to the program's text (the seventh form; the later family's looks); each row that meets fmt, with fmt's text TOLD by the authors' own Lean function (tested against real Go, not proved from fmt's source: count such statements apart). THE CARD IS WHAT COUNTS. Prove the row's statement (the work); the ties are given (YtcfimggnmcnkhaaDoorTie.lean); close each card by the builder's one call (the guide's Derived/Test/ToyasCard.lean, 'card_holds'). Laid BY PROGRAM, IN A SANDBOX (cutbox-door.mjs). By AI agents, Wed Nov 11 2026. No macro, syntax, notation, axiom, sorry.
-/
import Derived.Test.YtcfimggnmcnkhaaDoorRows
import GoSem.ClaimSeven
namespace Go.Proofs.YtcfimggnmcnkhaaDoor
namespace Rows

/-- THE TIED CARD OF 'codexlaw10.MetricTells'. -/
def metricTellsCard : Claim7 := { stood := { row := metricTellsRow, standIns := [], harness := (true, "c8f4c887eb79ae203614bc71870f133d0f14d6fd4b42716922aa70f2f3ffb049"), looks := false }, kinds := [], alts := [], laidByText := true, laidKinds := [.data, .pinned], laidTests := true, laidLooks := .later }
def MetricTellsCardSaid : Prop := Claim7.holds Tryd.pinned (.plain (OpenSpec.ofChange metricTellsSpec)) metricTellsCard

/-- THE TIED CARD OF 'codexlaw10.MetricSums'. -/
def metricSumsCard : Claim7 := { stood := { row := metricSumsRow, standIns := [], harness := (true, "c8f4c887eb79ae203614bc71870f133d0f14d6fd4b42716922aa70f2f3ffb049"), looks := false }, kinds := [], alts := [], laidByText := true, laidKinds := [.data, .pinned], laidTests := true, laidLooks := .later }
def MetricSumsCardSaid : Prop := Claim7.holds Tryd.pinned (.plain (OpenSpec.ofChange metricSumsSpec)) metricSumsCard

/-- THE TIED CARD OF 'codexlaw10.MetricKinds'. -/
def metricKindsCard : Claim7 := { stood := { row := metricKindsRow, standIns := [], harness := (true, "c8f4c887eb79ae203614bc71870f133d0f14d6fd4b42716922aa70f2f3ffb049"), looks := false }, kinds := [], alts := [], laidByText := true, laidKinds := [.data, .pinned], laidTests := true, laidLooks := .later }
def MetricKindsCardSaid : Prop := Claim7.holds Tryd.pinned (.plain (OpenSpec.ofChange metricKindsSpec)) metricKindsCard

/-- THE SECOND FORM's CARD OF 'codexlaw10.MetricTells'. -/
def metricTellsUptoCard : Claim7 := { stood := { row := metricTellsUptoRow, standIns := [], harness := (true, "c8f4c887eb79ae203614bc71870f133d0f14d6fd4b42716922aa70f2f3ffb049"), looks := false }, kinds := [], alts := [], laidByText := true, laidKinds := [.data, .pinned], laidTests := true, laidLooks := .later }
def MetricTellsUptoCardSaid : Prop := Claim7.holds Tryd.pinned (.plain (OpenSpec.upto metricTellsSpec)) metricTellsUptoCard

/-- THE SECOND FORM's CARD OF 'codexlaw10.MetricSums'. -/
def metricSumsUptoCard : Claim7 := { stood := { row := metricSumsUptoRow, standIns := [], harness := (true, "c8f4c887eb79ae203614bc71870f133d0f14d6fd4b42716922aa70f2f3ffb049"), looks := false }, kinds := [], alts := [], laidByText := true, laidKinds := [.data, .pinned], laidTests := true, laidLooks := .later }
def MetricSumsUptoCardSaid : Prop := Claim7.holds Tryd.pinned (.plain (OpenSpec.upto metricSumsSpec)) metricSumsUptoCard

/-- THE SECOND FORM's CARD OF 'codexlaw10.MetricKinds'. -/
def metricKindsUptoCard : Claim7 := { stood := { row := metricKindsUptoRow, standIns := [], harness := (true, "c8f4c887eb79ae203614bc71870f133d0f14d6fd4b42716922aa70f2f3ffb049"), looks := false }, kinds := [], alts := [], laidByText := true, laidKinds := [.data, .pinned], laidTests := true, laidLooks := .later }
def MetricKindsUptoCardSaid : Prop := Claim7.holds Tryd.pinned (.plain (OpenSpec.upto metricKindsSpec)) metricKindsUptoCard
end Rows
end Go.Proofs.YtcfimggnmcnkhaaDoor
