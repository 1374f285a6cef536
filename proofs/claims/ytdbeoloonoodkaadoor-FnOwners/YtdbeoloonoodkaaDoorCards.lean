/-
  DERIVED. GIVEN WITH THE SEED: THE CARDS: each row of YtdbeoloonoodkaaDoorRows.lean that lists a variable, with what it lists TIED to the program's text (the seventh form; the later family's looks); each row that meets fmt, with fmt's text TOLD by the authors' own Lean function (tested against real Go, not proved from fmt's source: count such statements apart). THE CARD IS WHAT COUNTS. Prove the row's statement (the work); the ties are given (YtdbeoloonoodkaaDoorTie.lean); close each card by the builder's one call (the guide's Derived/Test/ToyasCard.lean, 'card_holds'). Laid BY PROGRAM, IN A SANDBOX (cutbox-door.mjs). By AI agents, Wed Nov 11 2026. No macro, syntax, notation, axiom, sorry.
-/
import Derived.Test.YtdbeoloonoodkaaDoorRows
import GoSem.ClaimSeven
namespace Go.Proofs.YtdbeoloonoodkaaDoor
namespace Rows

/-- THE TIED CARD OF 'laws.FnOwners'. -/
def fnOwnersCard : Claim7 := { stood := { row := fnOwnersRow, standIns := [], harness := (true, "208ce4fbd7e8a7178aa59f9449baed156b9cecba6abf86d2a7d071e02c83a78e"), looks := true }, kinds := [], alts := [], laidByText := true, laidKinds := [.data, .data, .data], laidTests := true, laidLooks := .later }
def FnOwnersCardSaid : Prop := Claim7.holds Tryd.pinned (.plain (OpenSpec.ofChange fnOwnersSpec)) fnOwnersCard

/-- THE TIED CARD OF 'laws.FnExactWeight'. -/
def fnExactWeightCard : Claim7 := { stood := { row := fnExactWeightRow, standIns := [], harness := (true, "208ce4fbd7e8a7178aa59f9449baed156b9cecba6abf86d2a7d071e02c83a78e"), looks := true }, kinds := [], alts := [], laidByText := true, laidKinds := [.data, .data, .data], laidTests := true, laidLooks := .later }
def FnExactWeightCardSaid : Prop := Claim7.holds Tryd.pinned (.plain (OpenSpec.ofChange fnExactWeightSpec)) fnExactWeightCard

/-- THE TIED CARD OF 'laws.FnExactRanked'. -/
def fnExactRankedCard : Claim7 := { stood := { row := fnExactRankedRow, standIns := [], harness := (true, "208ce4fbd7e8a7178aa59f9449baed156b9cecba6abf86d2a7d071e02c83a78e"), looks := true }, kinds := [], alts := [], laidByText := true, laidKinds := [.data, .data, .data], laidTests := true, laidLooks := .later }
def FnExactRankedCardSaid : Prop := Claim7.holds Tryd.pinned (.plain (OpenSpec.ofChange fnExactRankedSpec)) fnExactRankedCard

/-- THE TIED CARD OF 'laws.FnExactOwner'. -/
def fnExactOwnerCard : Claim7 := { stood := { row := fnExactOwnerRow, standIns := [], harness := (true, "208ce4fbd7e8a7178aa59f9449baed156b9cecba6abf86d2a7d071e02c83a78e"), looks := true }, kinds := [], alts := [], laidByText := true, laidKinds := [.data, .data, .data], laidTests := true, laidLooks := .later }
def FnExactOwnerCardSaid : Prop := Claim7.holds Tryd.pinned (.plain (OpenSpec.ofChange fnExactOwnerSpec)) fnExactOwnerCard

/-- THE TIED CARD OF 'laws.FnExactMoved'. -/
def fnExactMovedCard : Claim7 := { stood := { row := fnExactMovedRow, standIns := [], harness := (true, "208ce4fbd7e8a7178aa59f9449baed156b9cecba6abf86d2a7d071e02c83a78e"), looks := true }, kinds := [], alts := [], laidByText := true, laidKinds := [.data, .data, .data], laidTests := true, laidLooks := .later }
def FnExactMovedCardSaid : Prop := Claim7.holds Tryd.pinned (.plain (OpenSpec.ofChange fnExactMovedSpec)) fnExactMovedCard

/-- THE SECOND FORM's CARD OF 'laws.FnOwners'. -/
def fnOwnersUptoCard : Claim7 := { stood := { row := fnOwnersUptoRow, standIns := [], harness := (true, "208ce4fbd7e8a7178aa59f9449baed156b9cecba6abf86d2a7d071e02c83a78e"), looks := true }, kinds := [], alts := [], laidByText := true, laidKinds := [.data, .data, .data], laidTests := true, laidLooks := .later }
def FnOwnersUptoCardSaid : Prop := Claim7.holds Tryd.pinned (.plain (OpenSpec.upto fnOwnersSpec)) fnOwnersUptoCard

/-- THE SECOND FORM's CARD OF 'laws.FnExactWeight'. -/
def fnExactWeightUptoCard : Claim7 := { stood := { row := fnExactWeightUptoRow, standIns := [], harness := (true, "208ce4fbd7e8a7178aa59f9449baed156b9cecba6abf86d2a7d071e02c83a78e"), looks := true }, kinds := [], alts := [], laidByText := true, laidKinds := [.data, .data, .data], laidTests := true, laidLooks := .later }
def FnExactWeightUptoCardSaid : Prop := Claim7.holds Tryd.pinned (.plain (OpenSpec.upto fnExactWeightSpec)) fnExactWeightUptoCard

/-- THE SECOND FORM's CARD OF 'laws.FnExactRanked'. -/
def fnExactRankedUptoCard : Claim7 := { stood := { row := fnExactRankedUptoRow, standIns := [], harness := (true, "208ce4fbd7e8a7178aa59f9449baed156b9cecba6abf86d2a7d071e02c83a78e"), looks := true }, kinds := [], alts := [], laidByText := true, laidKinds := [.data, .data, .data], laidTests := true, laidLooks := .later }
def FnExactRankedUptoCardSaid : Prop := Claim7.holds Tryd.pinned (.plain (OpenSpec.upto fnExactRankedSpec)) fnExactRankedUptoCard

/-- THE SECOND FORM's CARD OF 'laws.FnExactOwner'. -/
def fnExactOwnerUptoCard : Claim7 := { stood := { row := fnExactOwnerUptoRow, standIns := [], harness := (true, "208ce4fbd7e8a7178aa59f9449baed156b9cecba6abf86d2a7d071e02c83a78e"), looks := true }, kinds := [], alts := [], laidByText := true, laidKinds := [.data, .data, .data], laidTests := true, laidLooks := .later }
def FnExactOwnerUptoCardSaid : Prop := Claim7.holds Tryd.pinned (.plain (OpenSpec.upto fnExactOwnerSpec)) fnExactOwnerUptoCard

/-- THE SECOND FORM's CARD OF 'laws.FnExactMoved'. -/
def fnExactMovedUptoCard : Claim7 := { stood := { row := fnExactMovedUptoRow, standIns := [], harness := (true, "208ce4fbd7e8a7178aa59f9449baed156b9cecba6abf86d2a7d071e02c83a78e"), looks := true }, kinds := [], alts := [], laidByText := true, laidKinds := [.data, .data, .data], laidTests := true, laidLooks := .later }
def FnExactMovedUptoCardSaid : Prop := Claim7.holds Tryd.pinned (.plain (OpenSpec.upto fnExactMovedSpec)) fnExactMovedUptoCard
end Rows
end Go.Proofs.YtdbeoloonoodkaaDoor
