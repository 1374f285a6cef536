/-
  DERIVED. GIVEN WITH THE SEED: THE CARDS: each row of YtnachhmhjodbhaaGreatDoorRows.lean that lists a variable, with what it lists TIED to the program's text (the seventh form; the later family's looks); each row that meets fmt, with fmt's text TOLD by the authors' own Lean function (tested against real Go, not proved from fmt's source: count such statements apart). THE CARD IS WHAT COUNTS. Prove the row's statement (the work); the ties are given (YtnachhmhjodbhaaGreatDoorTie.lean); close each card by the builder's one call (the guide's Derived/Test/ToyasCard.lean, 'card_holds'). Laid BY PROGRAM, IN A SANDBOX (cutbox-door.mjs). By AI agents, Wed Nov 11 2026. No macro, syntax, notation, axiom, sorry.
-/
import Derived.Test.YtnachhmhjodbhaaGreatDoorRows
import GoSem.ClaimSeven
namespace Go.Proofs.YtnachhmhjodbhaaGreatDoor
namespace Rows

/-- THE TIED CARD OF 'laws.FnVaries'. -/
def fnVariesCard : Claim7 := { stood := { row := fnVariesRow, standIns := [], harness := (true, "a3d74425bbf7b983815507ac4a23705030fbbb24c4a1fcd8b20b776674873afb"), looks := false }, kinds := [], alts := [], laidByText := true, laidKinds := [.data, .pinned], laidTests := true, laidLooks := .later }
def FnVariesCardSaid : Prop := Claim7.holds Tryz.pinned (.plain (OpenSpec.ofChange fnVariesSpec)) fnVariesCard

/-- THE TIED CARD OF 'laws.FnExactMatches'. -/
def fnExactMatchesCard : Claim7 := { stood := { row := fnExactMatchesRow, standIns := [], harness := (true, "a3d74425bbf7b983815507ac4a23705030fbbb24c4a1fcd8b20b776674873afb"), looks := false }, kinds := [], alts := [], laidByText := true, laidKinds := [.data, .pinned], laidTests := true, laidLooks := .later }
def FnExactMatchesCardSaid : Prop := Claim7.holds Tryz.pinned (.plain (OpenSpec.ofChange fnExactMatchesSpec)) fnExactMatchesCard

/-- THE TIED CARD OF 'laws.FnExactChosen'. -/
def fnExactChosenCard : Claim7 := { stood := { row := fnExactChosenRow, standIns := [], harness := (true, "a3d74425bbf7b983815507ac4a23705030fbbb24c4a1fcd8b20b776674873afb"), looks := false }, kinds := [], alts := [], laidByText := true, laidKinds := [.data, .pinned], laidTests := true, laidLooks := .later }
def FnExactChosenCardSaid : Prop := Claim7.holds Tryz.pinned (.plain (OpenSpec.ofChange fnExactChosenSpec)) fnExactChosenCard

/-- THE SECOND FORM's CARD OF 'laws.FnVaries'. -/
def fnVariesUptoCard : Claim7 := { stood := { row := fnVariesUptoRow, standIns := [], harness := (true, "a3d74425bbf7b983815507ac4a23705030fbbb24c4a1fcd8b20b776674873afb"), looks := false }, kinds := [], alts := [], laidByText := true, laidKinds := [.data, .pinned], laidTests := true, laidLooks := .later }
def FnVariesUptoCardSaid : Prop := Claim7.holds Tryz.pinned (.plain (OpenSpec.upto fnVariesSpec)) fnVariesUptoCard

/-- THE SECOND FORM's CARD OF 'laws.FnExactMatches'. -/
def fnExactMatchesUptoCard : Claim7 := { stood := { row := fnExactMatchesUptoRow, standIns := [], harness := (true, "a3d74425bbf7b983815507ac4a23705030fbbb24c4a1fcd8b20b776674873afb"), looks := false }, kinds := [], alts := [], laidByText := true, laidKinds := [.data, .pinned], laidTests := true, laidLooks := .later }
def FnExactMatchesUptoCardSaid : Prop := Claim7.holds Tryz.pinned (.plain (OpenSpec.upto fnExactMatchesSpec)) fnExactMatchesUptoCard

/-- THE SECOND FORM's CARD OF 'laws.FnExactChosen'. -/
def fnExactChosenUptoCard : Claim7 := { stood := { row := fnExactChosenUptoRow, standIns := [], harness := (true, "a3d74425bbf7b983815507ac4a23705030fbbb24c4a1fcd8b20b776674873afb"), looks := false }, kinds := [], alts := [], laidByText := true, laidKinds := [.data, .pinned], laidTests := true, laidLooks := .later }
def FnExactChosenUptoCardSaid : Prop := Claim7.holds Tryz.pinned (.plain (OpenSpec.upto fnExactChosenSpec)) fnExactChosenUptoCard
end Rows
end Go.Proofs.YtnachhmhjodbhaaGreatDoor
