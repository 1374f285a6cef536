/-
  DERIVED. GIVEN WITH THE SEED: THE CARDS: each row of YtbdnfajdpajfpaaDoorRows.lean that lists a variable, with what it lists TIED to the program's text (the seventh form; the later family's looks); each row that meets fmt, with fmt's text TOLD by the authors' own Lean function (tested against real Go, not proved from fmt's source: count such statements apart). THE CARD IS WHAT COUNTS. Prove the row's statement (the work); the ties are given (YtbdnfajdpajfpaaDoorTie.lean); close each card by the builder's one call (the guide's Derived/Test/ToyasCard.lean, 'card_holds'). Laid BY PROGRAM, IN A SANDBOX (cutbox-door.mjs). By AI agents, Wed Nov 11 2026. No macro, syntax, notation, axiom, sorry.
-/
import Derived.Test.YtbdnfajdpajfpaaDoorRows
import GoSem.ClaimSeven
namespace Go.Proofs.YtbdnfajdpajfpaaDoor
namespace Rows

/-- THE TIED CARD OF 'laws.FnChunked'. -/
def fnChunkedCard : Claim7 := { stood := { row := fnChunkedRow, standIns := [], harness := (true, "a2778bb6c9a74f6ce2b36464805ef08b27ef1341ded20eca6ea359940a0d8b50"), looks := false }, kinds := [], alts := [], laidByText := true, laidKinds := [.data, .data, .data], laidTests := true, laidLooks := .later }
def FnChunkedCardSaid : Prop := Claim7.holds Tryd.pinned (.plain (OpenSpec.ofChange fnChunkedSpec)) fnChunkedCard

/-- THE TIED CARD OF 'laws.FnExactChunked'. -/
def fnExactChunkedCard : Claim7 := { stood := { row := fnExactChunkedRow, standIns := [], harness := (true, "a2778bb6c9a74f6ce2b36464805ef08b27ef1341ded20eca6ea359940a0d8b50"), looks := false }, kinds := [], alts := [], laidByText := true, laidKinds := [.data, .data, .data], laidTests := true, laidLooks := .later }
def FnExactChunkedCardSaid : Prop := Claim7.holds Tryd.pinned (.plain (OpenSpec.ofChange fnExactChunkedSpec)) fnExactChunkedCard

/-- THE SECOND FORM's CARD OF 'laws.FnChunked'. -/
def fnChunkedUptoCard : Claim7 := { stood := { row := fnChunkedUptoRow, standIns := [], harness := (true, "a2778bb6c9a74f6ce2b36464805ef08b27ef1341ded20eca6ea359940a0d8b50"), looks := false }, kinds := [], alts := [], laidByText := true, laidKinds := [.data, .data, .data], laidTests := true, laidLooks := .later }
def FnChunkedUptoCardSaid : Prop := Claim7.holds Tryd.pinned (.plain (OpenSpec.upto fnChunkedSpec)) fnChunkedUptoCard

/-- THE SECOND FORM's CARD OF 'laws.FnExactChunked'. -/
def fnExactChunkedUptoCard : Claim7 := { stood := { row := fnExactChunkedUptoRow, standIns := [], harness := (true, "a2778bb6c9a74f6ce2b36464805ef08b27ef1341ded20eca6ea359940a0d8b50"), looks := false }, kinds := [], alts := [], laidByText := true, laidKinds := [.data, .data, .data], laidTests := true, laidLooks := .later }
def FnExactChunkedUptoCardSaid : Prop := Claim7.holds Tryd.pinned (.plain (OpenSpec.upto fnExactChunkedSpec)) fnExactChunkedUptoCard
end Rows
end Go.Proofs.YtbdnfajdpajfpaaDoor
