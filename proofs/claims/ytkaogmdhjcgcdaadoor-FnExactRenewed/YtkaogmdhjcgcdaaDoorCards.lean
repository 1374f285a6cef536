/-
  DERIVED. GIVEN WITH THE SEED: THE CARDS: each row of YtkaogmdhjcgcdaaDoorRows.lean that lists a variable, with what it lists TIED to the program's text (the seventh form; the later family's looks); each row that meets fmt, with fmt's text TOLD by the authors' own Lean function (tested against real Go, not proved from fmt's source: count such statements apart). THE CARD IS WHAT COUNTS. Prove the row's statement (the work); the ties are given (YtkaogmdhjcgcdaaDoorTie.lean); close each card by the builder's one call (the guide's Derived/Test/ToyasCard.lean, 'card_holds'). Laid BY PROGRAM, IN A SANDBOX (cutbox-door.mjs). By AI agents, Wed Nov 11 2026. No macro, syntax, notation, axiom, sorry.
-/
import Derived.Test.YtkaogmdhjcgcdaaDoorRows
import GoSem.ClaimSeven
namespace Go.Proofs.YtkaogmdhjcgcdaaDoor
namespace Rows

/-- THE TIED CARD OF 'laws.FnExactObjectOk'. -/
def fnExactObjectOkCard : Claim7 := { stood := { row := fnExactObjectOkRow, standIns := [], harness := (true, "f5d167ae2244a21b79e6257b13115ad60d1b92f4b237d3c86fd32f306f86623c"), looks := false }, kinds := [], alts := [], laidByText := true, laidKinds := [.data, .pinned], laidTests := true, laidLooks := .later }
def FnExactObjectOkCardSaid : Prop := Claim7.holds Tryd.pinned (.plain (OpenSpec.ofChange fnExactObjectOkSpec)) fnExactObjectOkCard

/-- THE TIED CARD OF 'laws.FnExactRenewed'. -/
def fnExactRenewedCard : Claim7 := { stood := { row := fnExactRenewedRow, standIns := [], harness := (true, "f5d167ae2244a21b79e6257b13115ad60d1b92f4b237d3c86fd32f306f86623c"), looks := false }, kinds := [], alts := [], laidByText := true, laidKinds := [.data, .pinned], laidTests := true, laidLooks := .later }
def FnExactRenewedCardSaid : Prop := Claim7.holds Tryd.pinned (.plain (OpenSpec.ofChange fnExactRenewedSpec)) fnExactRenewedCard

/-- THE SECOND FORM's CARD OF 'laws.FnExactObjectOk'. -/
def fnExactObjectOkUptoCard : Claim7 := { stood := { row := fnExactObjectOkUptoRow, standIns := [], harness := (true, "f5d167ae2244a21b79e6257b13115ad60d1b92f4b237d3c86fd32f306f86623c"), looks := false }, kinds := [], alts := [], laidByText := true, laidKinds := [.data, .pinned], laidTests := true, laidLooks := .later }
def FnExactObjectOkUptoCardSaid : Prop := Claim7.holds Tryd.pinned (.plain (OpenSpec.upto fnExactObjectOkSpec)) fnExactObjectOkUptoCard

/-- THE SECOND FORM's CARD OF 'laws.FnExactRenewed'. -/
def fnExactRenewedUptoCard : Claim7 := { stood := { row := fnExactRenewedUptoRow, standIns := [], harness := (true, "f5d167ae2244a21b79e6257b13115ad60d1b92f4b237d3c86fd32f306f86623c"), looks := false }, kinds := [], alts := [], laidByText := true, laidKinds := [.data, .pinned], laidTests := true, laidLooks := .later }
def FnExactRenewedUptoCardSaid : Prop := Claim7.holds Tryd.pinned (.plain (OpenSpec.upto fnExactRenewedSpec)) fnExactRenewedUptoCard
end Rows
end Go.Proofs.YtkaogmdhjcgcdaaDoor
