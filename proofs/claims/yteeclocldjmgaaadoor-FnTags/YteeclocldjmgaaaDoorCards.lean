/-
  DERIVED. GIVEN WITH THE SEED: THE CARDS: each row of YteeclocldjmgaaaDoorRows.lean that lists a variable, with what it lists TIED to the program's text (the seventh form; the later family's looks); each row that meets fmt, with fmt's text TOLD by the authors' own Lean function (tested against real Go, not proved from fmt's source: count such statements apart). THE CARD IS WHAT COUNTS. Prove the row's statement (the work); the ties are given (YteeclocldjmgaaaDoorTie.lean); close each card by the builder's one call (the guide's Derived/Test/ToyasCard.lean, 'card_holds'). Laid BY PROGRAM, IN A SANDBOX (cutbox-door.mjs). By AI agents, Wed Nov 11 2026. No macro, syntax, notation, axiom, sorry.
-/
import Derived.Test.YteeclocldjmgaaaDoorRows
import GoSem.ClaimSeven
namespace Go.Proofs.YteeclocldjmgaaaDoor
namespace Rows

/-- THE TIED CARD OF 'laws.FnTags'. -/
def fnTagsCard : Claim7 := { stood := { row := fnTagsRow, standIns := [], harness := (true, "8ce02dd28b3b0a931cfb789cca5f5ea0385436f111083250ca564250f1e9c558"), looks := false }, kinds := [], alts := [], laidByText := true, laidKinds := [.data, .pinned], laidTests := true, laidLooks := .later }
def FnTagsCardSaid : Prop := Claim7.holds Tryd.pinned (.plain (OpenSpec.ofChange fnTagsSpec)) fnTagsCard

/-- THE TIED CARD OF 'laws.FnExactNoneMatch'. -/
def fnExactNoneMatchCard : Claim7 := { stood := { row := fnExactNoneMatchRow, standIns := [], harness := (true, "8ce02dd28b3b0a931cfb789cca5f5ea0385436f111083250ca564250f1e9c558"), looks := false }, kinds := [], alts := [], laidByText := true, laidKinds := [.data, .pinned], laidTests := true, laidLooks := .later }
def FnExactNoneMatchCardSaid : Prop := Claim7.holds Tryd.pinned (.plain (OpenSpec.ofChange fnExactNoneMatchSpec)) fnExactNoneMatchCard

/-- THE TIED CARD OF 'laws.FnExactAnyMatch'. -/
def fnExactAnyMatchCard : Claim7 := { stood := { row := fnExactAnyMatchRow, standIns := [], harness := (true, "8ce02dd28b3b0a931cfb789cca5f5ea0385436f111083250ca564250f1e9c558"), looks := false }, kinds := [], alts := [], laidByText := true, laidKinds := [.data, .pinned], laidTests := true, laidLooks := .later }
def FnExactAnyMatchCardSaid : Prop := Claim7.holds Tryd.pinned (.plain (OpenSpec.ofChange fnExactAnyMatchSpec)) fnExactAnyMatchCard

/-- THE SECOND FORM's CARD OF 'laws.FnTags'. -/
def fnTagsUptoCard : Claim7 := { stood := { row := fnTagsUptoRow, standIns := [], harness := (true, "8ce02dd28b3b0a931cfb789cca5f5ea0385436f111083250ca564250f1e9c558"), looks := false }, kinds := [], alts := [], laidByText := true, laidKinds := [.data, .pinned], laidTests := true, laidLooks := .later }
def FnTagsUptoCardSaid : Prop := Claim7.holds Tryd.pinned (.plain (OpenSpec.upto fnTagsSpec)) fnTagsUptoCard

/-- THE SECOND FORM's CARD OF 'laws.FnExactNoneMatch'. -/
def fnExactNoneMatchUptoCard : Claim7 := { stood := { row := fnExactNoneMatchUptoRow, standIns := [], harness := (true, "8ce02dd28b3b0a931cfb789cca5f5ea0385436f111083250ca564250f1e9c558"), looks := false }, kinds := [], alts := [], laidByText := true, laidKinds := [.data, .pinned], laidTests := true, laidLooks := .later }
def FnExactNoneMatchUptoCardSaid : Prop := Claim7.holds Tryd.pinned (.plain (OpenSpec.upto fnExactNoneMatchSpec)) fnExactNoneMatchUptoCard

/-- THE SECOND FORM's CARD OF 'laws.FnExactAnyMatch'. -/
def fnExactAnyMatchUptoCard : Claim7 := { stood := { row := fnExactAnyMatchUptoRow, standIns := [], harness := (true, "8ce02dd28b3b0a931cfb789cca5f5ea0385436f111083250ca564250f1e9c558"), looks := false }, kinds := [], alts := [], laidByText := true, laidKinds := [.data, .pinned], laidTests := true, laidLooks := .later }
def FnExactAnyMatchUptoCardSaid : Prop := Claim7.holds Tryd.pinned (.plain (OpenSpec.upto fnExactAnyMatchSpec)) fnExactAnyMatchUptoCard
end Rows
end Go.Proofs.YteeclocldjmgaaaDoor
