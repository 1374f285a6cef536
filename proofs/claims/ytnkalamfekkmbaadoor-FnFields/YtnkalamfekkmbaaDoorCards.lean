/-
  DERIVED. GIVEN WITH THE SEED: THE CARDS: each row of YtnkalamfekkmbaaDoorRows.lean that lists a variable, with what it lists TIED to the program's text (the seventh form; the later family's looks); each row that meets fmt, with fmt's text TOLD by the authors' own Lean function (tested against real Go, not proved from fmt's source: count such statements apart). THE CARD IS WHAT COUNTS. Prove the row's statement (the work); the ties are given (YtnkalamfekkmbaaDoorTie.lean); close each card by the builder's one call (the guide's Derived/Test/ToyasCard.lean, 'card_holds'). Laid BY PROGRAM, IN A SANDBOX (cutbox-door.mjs). By AI agents, Wed Nov 11 2026. No macro, syntax, notation, axiom, sorry.
-/
import Derived.Test.YtnkalamfekkmbaaDoorRows
import GoSem.ClaimSeven
namespace Go.Proofs.YtnkalamfekkmbaaDoor
namespace Rows

/-- THE TIED CARD OF 'laws.FnFields'. -/
def fnFieldsCard : Claim7 := { stood := { row := fnFieldsRow, standIns := [], harness := (true, "6bac73862194e151807d4a8cafc20bfa60fcf8354ad3b1bfe93a18fd565ab411"), looks := false }, kinds := [], alts := [], laidByText := true, laidKinds := [.data, .pinned], laidTests := true, laidLooks := .later }
def FnFieldsCardSaid : Prop := Claim7.holds Tryd.pinned (.plain (OpenSpec.ofChange fnFieldsSpec)) fnFieldsCard

/-- THE TIED CARD OF 'laws.FnNamed'. -/
def fnNamedCard : Claim7 := { stood := { row := fnNamedRow, standIns := [], harness := (true, "6bac73862194e151807d4a8cafc20bfa60fcf8354ad3b1bfe93a18fd565ab411"), looks := false }, kinds := [], alts := [], laidByText := true, laidKinds := [.data, .pinned], laidTests := true, laidLooks := .later }
def FnNamedCardSaid : Prop := Claim7.holds Tryd.pinned (.plain (OpenSpec.ofChange fnNamedSpec)) fnNamedCard

/-- THE TIED CARD OF 'laws.FnExactFieldsOk'. -/
def fnExactFieldsOkCard : Claim7 := { stood := { row := fnExactFieldsOkRow, standIns := [], harness := (true, "6bac73862194e151807d4a8cafc20bfa60fcf8354ad3b1bfe93a18fd565ab411"), looks := false }, kinds := [], alts := [], laidByText := true, laidKinds := [.data, .pinned], laidTests := true, laidLooks := .later }
def FnExactFieldsOkCardSaid : Prop := Claim7.holds Tryd.pinned (.plain (OpenSpec.ofChange fnExactFieldsOkSpec)) fnExactFieldsOkCard

/-- THE TIED CARD OF 'laws.FnExactGet'. -/
def fnExactGetCard : Claim7 := { stood := { row := fnExactGetRow, standIns := [], harness := (true, "6bac73862194e151807d4a8cafc20bfa60fcf8354ad3b1bfe93a18fd565ab411"), looks := false }, kinds := [], alts := [], laidByText := true, laidKinds := [.data, .pinned], laidTests := true, laidLooks := .later }
def FnExactGetCardSaid : Prop := Claim7.holds Tryd.pinned (.plain (OpenSpec.ofChange fnExactGetSpec)) fnExactGetCard

/-- THE TIED CARD OF 'laws.FnExactWithout'. -/
def fnExactWithoutCard : Claim7 := { stood := { row := fnExactWithoutRow, standIns := [], harness := (true, "6bac73862194e151807d4a8cafc20bfa60fcf8354ad3b1bfe93a18fd565ab411"), looks := false }, kinds := [], alts := [], laidByText := true, laidKinds := [.data, .pinned], laidTests := true, laidLooks := .later }
def FnExactWithoutCardSaid : Prop := Claim7.holds Tryd.pinned (.plain (OpenSpec.ofChange fnExactWithoutSpec)) fnExactWithoutCard

/-- THE TIED CARD OF 'laws.FnExactWith'. -/
def fnExactWithCard : Claim7 := { stood := { row := fnExactWithRow, standIns := [], harness := (true, "6bac73862194e151807d4a8cafc20bfa60fcf8354ad3b1bfe93a18fd565ab411"), looks := false }, kinds := [], alts := [], laidByText := true, laidKinds := [.data, .pinned], laidTests := true, laidLooks := .later }
def FnExactWithCardSaid : Prop := Claim7.holds Tryd.pinned (.plain (OpenSpec.ofChange fnExactWithSpec)) fnExactWithCard

/-- THE TIED CARD OF 'laws.FnExactHopless'. -/
def fnExactHoplessCard : Claim7 := { stood := { row := fnExactHoplessRow, standIns := [], harness := (true, "6bac73862194e151807d4a8cafc20bfa60fcf8354ad3b1bfe93a18fd565ab411"), looks := false }, kinds := [], alts := [], laidByText := true, laidKinds := [.data, .pinned], laidTests := true, laidLooks := .later }
def FnExactHoplessCardSaid : Prop := Claim7.holds Tryd.pinned (.plain (OpenSpec.ofChange fnExactHoplessSpec)) fnExactHoplessCard

/-- THE TIED CARD OF 'laws.FnExactShowFields'. -/
def fnExactShowFieldsCard : Claim7 := { stood := { row := fnExactShowFieldsRow, standIns := [], harness := (true, "6bac73862194e151807d4a8cafc20bfa60fcf8354ad3b1bfe93a18fd565ab411"), looks := false }, kinds := [], alts := [], laidByText := true, laidKinds := [.data, .pinned], laidTests := true, laidLooks := .later }
def FnExactShowFieldsCardSaid : Prop := Claim7.holds Tryd.pinned (.plain (OpenSpec.ofChange fnExactShowFieldsSpec)) fnExactShowFieldsCard

/-- THE TIED CARD OF 'laws.FnExactReadFields'. -/
def fnExactReadFieldsCard : Claim7 := { stood := { row := fnExactReadFieldsRow, standIns := [], harness := (true, "6bac73862194e151807d4a8cafc20bfa60fcf8354ad3b1bfe93a18fd565ab411"), looks := false }, kinds := [], alts := [], laidByText := true, laidKinds := [.data, .pinned], laidTests := true, laidLooks := .later }
def FnExactReadFieldsCardSaid : Prop := Claim7.holds Tryd.pinned (.plain (OpenSpec.ofChange fnExactReadFieldsSpec)) fnExactReadFieldsCard

/-- THE SECOND FORM's CARD OF 'laws.FnFields'. -/
def fnFieldsUptoCard : Claim7 := { stood := { row := fnFieldsUptoRow, standIns := [], harness := (true, "6bac73862194e151807d4a8cafc20bfa60fcf8354ad3b1bfe93a18fd565ab411"), looks := false }, kinds := [], alts := [], laidByText := true, laidKinds := [.data, .pinned], laidTests := true, laidLooks := .later }
def FnFieldsUptoCardSaid : Prop := Claim7.holds Tryd.pinned (.plain (OpenSpec.upto fnFieldsSpec)) fnFieldsUptoCard

/-- THE SECOND FORM's CARD OF 'laws.FnNamed'. -/
def fnNamedUptoCard : Claim7 := { stood := { row := fnNamedUptoRow, standIns := [], harness := (true, "6bac73862194e151807d4a8cafc20bfa60fcf8354ad3b1bfe93a18fd565ab411"), looks := false }, kinds := [], alts := [], laidByText := true, laidKinds := [.data, .pinned], laidTests := true, laidLooks := .later }
def FnNamedUptoCardSaid : Prop := Claim7.holds Tryd.pinned (.plain (OpenSpec.upto fnNamedSpec)) fnNamedUptoCard

/-- THE SECOND FORM's CARD OF 'laws.FnExactFieldsOk'. -/
def fnExactFieldsOkUptoCard : Claim7 := { stood := { row := fnExactFieldsOkUptoRow, standIns := [], harness := (true, "6bac73862194e151807d4a8cafc20bfa60fcf8354ad3b1bfe93a18fd565ab411"), looks := false }, kinds := [], alts := [], laidByText := true, laidKinds := [.data, .pinned], laidTests := true, laidLooks := .later }
def FnExactFieldsOkUptoCardSaid : Prop := Claim7.holds Tryd.pinned (.plain (OpenSpec.upto fnExactFieldsOkSpec)) fnExactFieldsOkUptoCard

/-- THE SECOND FORM's CARD OF 'laws.FnExactGet'. -/
def fnExactGetUptoCard : Claim7 := { stood := { row := fnExactGetUptoRow, standIns := [], harness := (true, "6bac73862194e151807d4a8cafc20bfa60fcf8354ad3b1bfe93a18fd565ab411"), looks := false }, kinds := [], alts := [], laidByText := true, laidKinds := [.data, .pinned], laidTests := true, laidLooks := .later }
def FnExactGetUptoCardSaid : Prop := Claim7.holds Tryd.pinned (.plain (OpenSpec.upto fnExactGetSpec)) fnExactGetUptoCard

/-- THE SECOND FORM's CARD OF 'laws.FnExactWithout'. -/
def fnExactWithoutUptoCard : Claim7 := { stood := { row := fnExactWithoutUptoRow, standIns := [], harness := (true, "6bac73862194e151807d4a8cafc20bfa60fcf8354ad3b1bfe93a18fd565ab411"), looks := false }, kinds := [], alts := [], laidByText := true, laidKinds := [.data, .pinned], laidTests := true, laidLooks := .later }
def FnExactWithoutUptoCardSaid : Prop := Claim7.holds Tryd.pinned (.plain (OpenSpec.upto fnExactWithoutSpec)) fnExactWithoutUptoCard

/-- THE SECOND FORM's CARD OF 'laws.FnExactWith'. -/
def fnExactWithUptoCard : Claim7 := { stood := { row := fnExactWithUptoRow, standIns := [], harness := (true, "6bac73862194e151807d4a8cafc20bfa60fcf8354ad3b1bfe93a18fd565ab411"), looks := false }, kinds := [], alts := [], laidByText := true, laidKinds := [.data, .pinned], laidTests := true, laidLooks := .later }
def FnExactWithUptoCardSaid : Prop := Claim7.holds Tryd.pinned (.plain (OpenSpec.upto fnExactWithSpec)) fnExactWithUptoCard

/-- THE SECOND FORM's CARD OF 'laws.FnExactHopless'. -/
def fnExactHoplessUptoCard : Claim7 := { stood := { row := fnExactHoplessUptoRow, standIns := [], harness := (true, "6bac73862194e151807d4a8cafc20bfa60fcf8354ad3b1bfe93a18fd565ab411"), looks := false }, kinds := [], alts := [], laidByText := true, laidKinds := [.data, .pinned], laidTests := true, laidLooks := .later }
def FnExactHoplessUptoCardSaid : Prop := Claim7.holds Tryd.pinned (.plain (OpenSpec.upto fnExactHoplessSpec)) fnExactHoplessUptoCard

/-- THE SECOND FORM's CARD OF 'laws.FnExactShowFields'. -/
def fnExactShowFieldsUptoCard : Claim7 := { stood := { row := fnExactShowFieldsUptoRow, standIns := [], harness := (true, "6bac73862194e151807d4a8cafc20bfa60fcf8354ad3b1bfe93a18fd565ab411"), looks := false }, kinds := [], alts := [], laidByText := true, laidKinds := [.data, .pinned], laidTests := true, laidLooks := .later }
def FnExactShowFieldsUptoCardSaid : Prop := Claim7.holds Tryd.pinned (.plain (OpenSpec.upto fnExactShowFieldsSpec)) fnExactShowFieldsUptoCard

/-- THE SECOND FORM's CARD OF 'laws.FnExactReadFields'. -/
def fnExactReadFieldsUptoCard : Claim7 := { stood := { row := fnExactReadFieldsUptoRow, standIns := [], harness := (true, "6bac73862194e151807d4a8cafc20bfa60fcf8354ad3b1bfe93a18fd565ab411"), looks := false }, kinds := [], alts := [], laidByText := true, laidKinds := [.data, .pinned], laidTests := true, laidLooks := .later }
def FnExactReadFieldsUptoCardSaid : Prop := Claim7.holds Tryd.pinned (.plain (OpenSpec.upto fnExactReadFieldsSpec)) fnExactReadFieldsUptoCard
end Rows
end Go.Proofs.YtnkalamfekkmbaaDoor
