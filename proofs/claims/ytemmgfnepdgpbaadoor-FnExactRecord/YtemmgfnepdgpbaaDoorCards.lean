/-
  DERIVED. GIVEN WITH THE SEED: THE CARDS: each row of YtemmgfnepdgpbaaDoorRows.lean that lists a variable, with what it lists TIED to the program's text (the seventh form; the later family's looks); each row that meets fmt, with fmt's text TOLD by the authors' own Lean function (tested against real Go, not proved from fmt's source: count such statements apart). THE CARD IS WHAT COUNTS. Prove the row's statement (the work); the ties are given (YtemmgfnepdgpbaaDoorTie.lean); close each card by the builder's one call (the guide's Derived/Test/ToyasCard.lean, 'card_holds'). Laid BY PROGRAM, IN A SANDBOX (cutbox-door.mjs). By AI agents, Wed Nov 11 2026. No macro, syntax, notation, axiom, sorry.
-/
import Derived.Test.YtemmgfnepdgpbaaDoorRows
import GoSem.ClaimSeven
namespace Go.Proofs.YtemmgfnepdgpbaaDoor
namespace Rows

/-- THE TIED CARD OF 'laws.FnExactShowObject'. -/
def fnExactShowObjectCard : Claim7 := { stood := { row := fnExactShowObjectRow, standIns := [], harness := (true, "6908141243c83183923b3d6330d505004e9e71f42434679c44f39503613ffb8b"), looks := false }, kinds := [], alts := [], laidByText := true, laidKinds := [.data, .data, .data, .data, .pinned], laidTests := true, laidLooks := .later }
def FnExactShowObjectCardSaid : Prop := Claim7.holds Tryd.pinned (.plain (OpenSpec.ofChange fnExactShowObjectSpec)) fnExactShowObjectCard

/-- THE TIED CARD OF 'laws.FnExactRecord'. -/
def fnExactRecordCard : Claim7 := { stood := { row := fnExactRecordRow, standIns := [], harness := (true, "6908141243c83183923b3d6330d505004e9e71f42434679c44f39503613ffb8b"), looks := false }, kinds := [], alts := [], laidByText := true, laidKinds := [.data, .data, .data], laidTests := true, laidLooks := .later }
def FnExactRecordCardSaid : Prop := Claim7.holds Tryd.pinned (.plain (OpenSpec.ofChange fnExactRecordSpec)) fnExactRecordCard

/-- THE SECOND FORM's CARD OF 'laws.FnExactShowObject'. -/
def fnExactShowObjectUptoCard : Claim7 := { stood := { row := fnExactShowObjectUptoRow, standIns := [], harness := (true, "6908141243c83183923b3d6330d505004e9e71f42434679c44f39503613ffb8b"), looks := false }, kinds := [], alts := [], laidByText := true, laidKinds := [.data, .data, .data, .data, .pinned], laidTests := true, laidLooks := .later }
def FnExactShowObjectUptoCardSaid : Prop := Claim7.holds Tryd.pinned (.plain (OpenSpec.upto fnExactShowObjectSpec)) fnExactShowObjectUptoCard

/-- THE SECOND FORM's CARD OF 'laws.FnExactRecord'. -/
def fnExactRecordUptoCard : Claim7 := { stood := { row := fnExactRecordUptoRow, standIns := [], harness := (true, "6908141243c83183923b3d6330d505004e9e71f42434679c44f39503613ffb8b"), looks := false }, kinds := [], alts := [], laidByText := true, laidKinds := [.data, .data, .data], laidTests := true, laidLooks := .later }
def FnExactRecordUptoCardSaid : Prop := Claim7.holds Tryd.pinned (.plain (OpenSpec.upto fnExactRecordSpec)) fnExactRecordUptoCard
end Rows
end Go.Proofs.YtemmgfnepdgpbaaDoor
