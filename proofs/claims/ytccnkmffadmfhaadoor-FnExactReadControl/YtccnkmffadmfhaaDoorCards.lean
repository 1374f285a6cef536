/-
  DERIVED. GIVEN WITH THE SEED: THE CARDS: each row of YtccnkmffadmfhaaDoorRows.lean that lists a variable, with what it lists TIED to the program's text (the seventh form; the later family's looks); each row that meets fmt, with fmt's text TOLD by the authors' own Lean function (tested against real Go, not proved from fmt's source: count such statements apart). THE CARD IS WHAT COUNTS. Prove the row's statement (the work); the ties are given (YtccnkmffadmfhaaDoorTie.lean); close each card by the builder's one call (the guide's Derived/Test/ToyasCard.lean, 'card_holds'). Laid BY PROGRAM, IN A SANDBOX (cutbox-door.mjs). By AI agents, Wed Nov 11 2026. No macro, syntax, notation, axiom, sorry.
-/
import Derived.Test.YtccnkmffadmfhaaDoorRows
import GoSem.ClaimSeven
namespace Go.Proofs.YtccnkmffadmfhaaDoor
namespace Rows

/-- THE TIED CARD OF 'laws.FnExactReadControl'. -/
def fnExactReadControlCard : Claim7 := { stood := { row := fnExactReadControlRow, standIns := [], harness := (true, "425806668af2fcc284e73b51ad857712c16bf98a8d5bdc68beae18ebf3abfe74"), looks := false }, kinds := [], alts := [], laidByText := true, laidKinds := [.data, .pinned], laidTests := true, laidLooks := .later }
def FnExactReadControlCardSaid : Prop := Claim7.holds Tryd.pinned (.plain (OpenSpec.ofChange fnExactReadControlSpec)) fnExactReadControlCard

/-- THE TIED CARD OF 'laws.FnExactShowControl'. -/
def fnExactShowControlCard : Claim7 := { stood := { row := fnExactShowControlRow, standIns := [], harness := (true, "425806668af2fcc284e73b51ad857712c16bf98a8d5bdc68beae18ebf3abfe74"), looks := false }, kinds := [], alts := [], laidByText := true, laidKinds := [.data, .data, .data], laidTests := true, laidLooks := .later }
def FnExactShowControlCardSaid : Prop := Claim7.holds Tryd.pinned (.plain (OpenSpec.ofChange fnExactShowControlSpec)) fnExactShowControlCard

/-- THE SECOND FORM's CARD OF 'laws.FnExactReadControl'. -/
def fnExactReadControlUptoCard : Claim7 := { stood := { row := fnExactReadControlUptoRow, standIns := [], harness := (true, "425806668af2fcc284e73b51ad857712c16bf98a8d5bdc68beae18ebf3abfe74"), looks := false }, kinds := [], alts := [], laidByText := true, laidKinds := [.data, .pinned], laidTests := true, laidLooks := .later }
def FnExactReadControlUptoCardSaid : Prop := Claim7.holds Tryd.pinned (.plain (OpenSpec.upto fnExactReadControlSpec)) fnExactReadControlUptoCard

/-- THE SECOND FORM's CARD OF 'laws.FnExactShowControl'. -/
def fnExactShowControlUptoCard : Claim7 := { stood := { row := fnExactShowControlUptoRow, standIns := [], harness := (true, "425806668af2fcc284e73b51ad857712c16bf98a8d5bdc68beae18ebf3abfe74"), looks := false }, kinds := [], alts := [], laidByText := true, laidKinds := [.data, .data, .data], laidTests := true, laidLooks := .later }
def FnExactShowControlUptoCardSaid : Prop := Claim7.holds Tryd.pinned (.plain (OpenSpec.upto fnExactShowControlSpec)) fnExactShowControlUptoCard
end Rows
end Go.Proofs.YtccnkmffadmfhaaDoor
