/-
  DERIVED. GIVEN WITH THE SEED: THE CARDS: each row of YtamfgjgmnnnjpaaDoorRows.lean that lists a variable, with what it lists TIED to the program's text (the seventh form; the later family's looks); each row that meets fmt, with fmt's text TOLD by the authors' own Lean function (tested against real Go, not proved from fmt's source: count such statements apart). THE CARD IS WHAT COUNTS. Prove the row's statement (the work); the ties are given (YtamfgjgmnnnjpaaDoorTie.lean); close each card by the builder's one call (the guide's Derived/Test/ToyasCard.lean, 'card_holds'). Laid BY PROGRAM, IN A SANDBOX (cutbox-door.mjs). By AI agents, Wed Nov 11 2026. No macro, syntax, notation, axiom, sorry.
-/
import Derived.Test.YtamfgjgmnnnjpaaDoorRows
import GoSem.ClaimSeven
namespace Go.Proofs.YtamfgjgmnnnjpaaDoor
namespace Rows

/-- THE TIED CARD OF 'laws.FnCuts'. -/
def fnCutsCard : Claim7 := { stood := { row := fnCutsRow, standIns := [], harness := (true, "b8989d23d668568a9e20b587d5ef3e627df6c4bea59502c2625e75a8eecd00cc"), looks := false }, kinds := [], alts := [], laidByText := true, laidKinds := [.data, .data, .data, .data, .pinned], laidTests := true, laidLooks := .later }
def FnCutsCardSaid : Prop := Claim7.holds Tryd.pinned (.plain (OpenSpec.ofChange fnCutsSpec)) fnCutsCard

/-- THE TIED CARD OF 'laws.FnExactReadSpans'. -/
def fnExactReadSpansCard : Claim7 := { stood := { row := fnExactReadSpansRow, standIns := [], harness := (true, "b8989d23d668568a9e20b587d5ef3e627df6c4bea59502c2625e75a8eecd00cc"), looks := false }, kinds := [], alts := [], laidByText := true, laidKinds := [.data, .pinned], laidTests := true, laidLooks := .later }
def FnExactReadSpansCardSaid : Prop := Claim7.holds Tryd.pinned (.plain (OpenSpec.ofChange fnExactReadSpansSpec)) fnExactReadSpansCard

/-- THE TIED CARD OF 'laws.FnExactShowSpan'. -/
def fnExactShowSpanCard : Claim7 := { stood := { row := fnExactShowSpanRow, standIns := [], harness := (true, "b8989d23d668568a9e20b587d5ef3e627df6c4bea59502c2625e75a8eecd00cc"), looks := false }, kinds := [], alts := [], laidByText := true, laidKinds := [.data, .data, .data], laidTests := true, laidLooks := .later }
def FnExactShowSpanCardSaid : Prop := Claim7.holds Tryd.pinned (.plain (OpenSpec.ofChange fnExactShowSpanSpec)) fnExactShowSpanCard

/-- THE SECOND FORM's CARD OF 'laws.FnCuts'. -/
def fnCutsUptoCard : Claim7 := { stood := { row := fnCutsUptoRow, standIns := [], harness := (true, "b8989d23d668568a9e20b587d5ef3e627df6c4bea59502c2625e75a8eecd00cc"), looks := false }, kinds := [], alts := [], laidByText := true, laidKinds := [.data, .data, .data, .data, .pinned], laidTests := true, laidLooks := .later }
def FnCutsUptoCardSaid : Prop := Claim7.holds Tryd.pinned (.plain (OpenSpec.upto fnCutsSpec)) fnCutsUptoCard

/-- THE SECOND FORM's CARD OF 'laws.FnExactReadSpans'. -/
def fnExactReadSpansUptoCard : Claim7 := { stood := { row := fnExactReadSpansUptoRow, standIns := [], harness := (true, "b8989d23d668568a9e20b587d5ef3e627df6c4bea59502c2625e75a8eecd00cc"), looks := false }, kinds := [], alts := [], laidByText := true, laidKinds := [.data, .pinned], laidTests := true, laidLooks := .later }
def FnExactReadSpansUptoCardSaid : Prop := Claim7.holds Tryd.pinned (.plain (OpenSpec.upto fnExactReadSpansSpec)) fnExactReadSpansUptoCard

/-- THE SECOND FORM's CARD OF 'laws.FnExactShowSpan'. -/
def fnExactShowSpanUptoCard : Claim7 := { stood := { row := fnExactShowSpanUptoRow, standIns := [], harness := (true, "b8989d23d668568a9e20b587d5ef3e627df6c4bea59502c2625e75a8eecd00cc"), looks := false }, kinds := [], alts := [], laidByText := true, laidKinds := [.data, .data, .data], laidTests := true, laidLooks := .later }
def FnExactShowSpanUptoCardSaid : Prop := Claim7.holds Tryd.pinned (.plain (OpenSpec.upto fnExactShowSpanSpec)) fnExactShowSpanUptoCard
end Rows
end Go.Proofs.YtamfgjgmnnnjpaaDoor
