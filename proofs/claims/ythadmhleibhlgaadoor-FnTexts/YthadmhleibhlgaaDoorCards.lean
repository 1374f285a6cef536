/-
  DERIVED. GIVEN WITH THE SEED: THE CARDS: each row of YthadmhleibhlgaaDoorRows.lean that lists a variable, with what it lists TIED to the program's text (the seventh form; the later family's looks); each row that meets fmt, with fmt's text TOLD by the authors' own Lean function (tested against real Go, not proved from fmt's source: count such statements apart). THE CARD IS WHAT COUNTS. Prove the row's statement (the work); the ties are given (YthadmhleibhlgaaDoorTie.lean); close each card by the builder's one call (the guide's Derived/Test/ToyasCard.lean, 'card_holds'). Laid BY PROGRAM, IN A SANDBOX (cutbox-door.mjs). By AI agents, Wed Nov 11 2026. No macro, syntax, notation, axiom, sorry.
-/
import Derived.Test.YthadmhleibhlgaaDoorRows
import GoSem.ClaimSeven
namespace Go.Proofs.YthadmhleibhlgaaDoor
namespace Rows

/-- THE TIED CARD OF 'laws.FnTexts'. -/
def fnTextsCard : Claim7 := { stood := { row := fnTextsRow, standIns := [], harness := (true, "9d4534b3f14e0ecd2470fb1928d870e4fb8957fa856d162898d4ff1ae67fbeb9"), looks := false }, kinds := [], alts := [], laidByText := true, laidKinds := [.data, .pinned], laidTests := true, laidLooks := .later }
def FnTextsCardSaid : Prop := Claim7.holds Tryd.pinned (.plain (OpenSpec.ofChange fnTextsSpec)) fnTextsCard

/-- THE TIED CARD OF 'laws.FnPaths'. -/
def fnPathsCard : Claim7 := { stood := { row := fnPathsRow, standIns := [], harness := (true, "9d4534b3f14e0ecd2470fb1928d870e4fb8957fa856d162898d4ff1ae67fbeb9"), looks := false }, kinds := [], alts := [], laidByText := true, laidKinds := [.data, .pinned], laidTests := true, laidLooks := .later }
def FnPathsCardSaid : Prop := Claim7.holds Tryd.pinned (.plain (OpenSpec.ofChange fnPathsSpec)) fnPathsCard

/-- THE TIED CARD OF 'laws.FnKeys'. -/
def fnKeysCard : Claim7 := { stood := { row := fnKeysRow, standIns := [], harness := (true, "9d4534b3f14e0ecd2470fb1928d870e4fb8957fa856d162898d4ff1ae67fbeb9"), looks := false }, kinds := [], alts := [], laidByText := true, laidKinds := [.data, .pinned], laidTests := true, laidLooks := .later }
def FnKeysCardSaid : Prop := Claim7.holds Tryd.pinned (.plain (OpenSpec.ofChange fnKeysSpec)) fnKeysCard

/-- THE TIED CARD OF 'laws.FnExactDotless'. -/
def fnExactDotlessCard : Claim7 := { stood := { row := fnExactDotlessRow, standIns := [], harness := (true, "9d4534b3f14e0ecd2470fb1928d870e4fb8957fa856d162898d4ff1ae67fbeb9"), looks := false }, kinds := [], alts := [], laidByText := true, laidKinds := [.data, .pinned], laidTests := true, laidLooks := .later }
def FnExactDotlessCardSaid : Prop := Claim7.holds Tryd.pinned (.plain (OpenSpec.ofChange fnExactDotlessSpec)) fnExactDotlessCard

/-- THE TIED CARD OF 'laws.FnExactNormalPath'. -/
def fnExactNormalPathCard : Claim7 := { stood := { row := fnExactNormalPathRow, standIns := [], harness := (true, "9d4534b3f14e0ecd2470fb1928d870e4fb8957fa856d162898d4ff1ae67fbeb9"), looks := false }, kinds := [], alts := [], laidByText := true, laidKinds := [.data, .pinned], laidTests := true, laidLooks := .later }
def FnExactNormalPathCardSaid : Prop := Claim7.holds Tryd.pinned (.plain (OpenSpec.ofChange fnExactNormalPathSpec)) fnExactNormalPathCard

/-- THE TIED CARD OF 'laws.FnExactSortedQuery'. -/
def fnExactSortedQueryCard : Claim7 := { stood := { row := fnExactSortedQueryRow, standIns := [], harness := (true, "9d4534b3f14e0ecd2470fb1928d870e4fb8957fa856d162898d4ff1ae67fbeb9"), looks := false }, kinds := [], alts := [], laidByText := true, laidKinds := [.data, .pinned], laidTests := true, laidLooks := .later }
def FnExactSortedQueryCardSaid : Prop := Claim7.holds Tryd.pinned (.plain (OpenSpec.ofChange fnExactSortedQuerySpec)) fnExactSortedQueryCard

/-- THE TIED CARD OF 'laws.FnExactKey'. -/
def fnExactKeyCard : Claim7 := { stood := { row := fnExactKeyRow, standIns := [], harness := (true, "9d4534b3f14e0ecd2470fb1928d870e4fb8957fa856d162898d4ff1ae67fbeb9"), looks := false }, kinds := [], alts := [], laidByText := true, laidKinds := [.data, .pinned], laidTests := true, laidLooks := .later }
def FnExactKeyCardSaid : Prop := Claim7.holds Tryd.pinned (.plain (OpenSpec.ofChange fnExactKeySpec)) fnExactKeyCard

/-- THE SECOND FORM's CARD OF 'laws.FnTexts'. -/
def fnTextsUptoCard : Claim7 := { stood := { row := fnTextsUptoRow, standIns := [], harness := (true, "9d4534b3f14e0ecd2470fb1928d870e4fb8957fa856d162898d4ff1ae67fbeb9"), looks := false }, kinds := [], alts := [], laidByText := true, laidKinds := [.data, .pinned], laidTests := true, laidLooks := .later }
def FnTextsUptoCardSaid : Prop := Claim7.holds Tryd.pinned (.plain (OpenSpec.upto fnTextsSpec)) fnTextsUptoCard

/-- THE SECOND FORM's CARD OF 'laws.FnPaths'. -/
def fnPathsUptoCard : Claim7 := { stood := { row := fnPathsUptoRow, standIns := [], harness := (true, "9d4534b3f14e0ecd2470fb1928d870e4fb8957fa856d162898d4ff1ae67fbeb9"), looks := false }, kinds := [], alts := [], laidByText := true, laidKinds := [.data, .pinned], laidTests := true, laidLooks := .later }
def FnPathsUptoCardSaid : Prop := Claim7.holds Tryd.pinned (.plain (OpenSpec.upto fnPathsSpec)) fnPathsUptoCard

/-- THE SECOND FORM's CARD OF 'laws.FnKeys'. -/
def fnKeysUptoCard : Claim7 := { stood := { row := fnKeysUptoRow, standIns := [], harness := (true, "9d4534b3f14e0ecd2470fb1928d870e4fb8957fa856d162898d4ff1ae67fbeb9"), looks := false }, kinds := [], alts := [], laidByText := true, laidKinds := [.data, .pinned], laidTests := true, laidLooks := .later }
def FnKeysUptoCardSaid : Prop := Claim7.holds Tryd.pinned (.plain (OpenSpec.upto fnKeysSpec)) fnKeysUptoCard

/-- THE SECOND FORM's CARD OF 'laws.FnExactDotless'. -/
def fnExactDotlessUptoCard : Claim7 := { stood := { row := fnExactDotlessUptoRow, standIns := [], harness := (true, "9d4534b3f14e0ecd2470fb1928d870e4fb8957fa856d162898d4ff1ae67fbeb9"), looks := false }, kinds := [], alts := [], laidByText := true, laidKinds := [.data, .pinned], laidTests := true, laidLooks := .later }
def FnExactDotlessUptoCardSaid : Prop := Claim7.holds Tryd.pinned (.plain (OpenSpec.upto fnExactDotlessSpec)) fnExactDotlessUptoCard

/-- THE SECOND FORM's CARD OF 'laws.FnExactNormalPath'. -/
def fnExactNormalPathUptoCard : Claim7 := { stood := { row := fnExactNormalPathUptoRow, standIns := [], harness := (true, "9d4534b3f14e0ecd2470fb1928d870e4fb8957fa856d162898d4ff1ae67fbeb9"), looks := false }, kinds := [], alts := [], laidByText := true, laidKinds := [.data, .pinned], laidTests := true, laidLooks := .later }
def FnExactNormalPathUptoCardSaid : Prop := Claim7.holds Tryd.pinned (.plain (OpenSpec.upto fnExactNormalPathSpec)) fnExactNormalPathUptoCard

/-- THE SECOND FORM's CARD OF 'laws.FnExactSortedQuery'. -/
def fnExactSortedQueryUptoCard : Claim7 := { stood := { row := fnExactSortedQueryUptoRow, standIns := [], harness := (true, "9d4534b3f14e0ecd2470fb1928d870e4fb8957fa856d162898d4ff1ae67fbeb9"), looks := false }, kinds := [], alts := [], laidByText := true, laidKinds := [.data, .pinned], laidTests := true, laidLooks := .later }
def FnExactSortedQueryUptoCardSaid : Prop := Claim7.holds Tryd.pinned (.plain (OpenSpec.upto fnExactSortedQuerySpec)) fnExactSortedQueryUptoCard

/-- THE SECOND FORM's CARD OF 'laws.FnExactKey'. -/
def fnExactKeyUptoCard : Claim7 := { stood := { row := fnExactKeyUptoRow, standIns := [], harness := (true, "9d4534b3f14e0ecd2470fb1928d870e4fb8957fa856d162898d4ff1ae67fbeb9"), looks := false }, kinds := [], alts := [], laidByText := true, laidKinds := [.data, .pinned], laidTests := true, laidLooks := .later }
def FnExactKeyUptoCardSaid : Prop := Claim7.holds Tryd.pinned (.plain (OpenSpec.upto fnExactKeySpec)) fnExactKeyUptoCard
end Rows
end Go.Proofs.YthadmhleibhlgaaDoor
