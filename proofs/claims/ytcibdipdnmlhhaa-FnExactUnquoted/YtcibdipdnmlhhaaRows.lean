/-
  No cell of these rows narrows 'for every input' (looked for: loops, veiled, ifaces, maps, wideKeys, modest, calm, conditions, laid).
  DERIVED. THE GIVEN ROWS OF THIS SEAT. 7 by the template 'for every input the law returns true; each argument reads behind the call as it read before'; 0 by the template 'total and deterministic' (their statements: YtcibdipdnmlhhaaTotals.lean).
  GIVEN WITH THE SEED: the statements are not yours to turn. If you find one false, say at which input.
  Laid BY PROGRAM, IN A SANDBOX (cutbox-rows.mjs): the forced cells as the released guide's own fill.sh prints them over the translation a496920356aa8197… (all of the seat's roots in one cut). By AI agents, Wed Nov 11 2026. No macro, syntax, notation, axiom, sorry.
-/
import Derived.Test.YtcibdipdnmlhhaaChecked
import GoSem.Claim
import GoSem.ClaimJoined
import GoSem.ClaimMapViews
import Derived.JoinedTies
import Derived.KernelRfl
namespace Go.Proofs.Ytcibdipdnmlhhaa
/- THE CELL 'sum', in the pinned program and in every row, IS THE sha256 OF THE DUMP (.gsa) THAT YtcibdipdnmlhhaaProg.lean LOADS. Nothing in Lean hashes anything: it is a label: what it is worth is what the hold of that sum in a sandbox is worth. -/
noncomputable def Try.pinned : Pinned := { name := "ytcibdipdnmlhhaa", sum := "a496920356aa819721a5f7922c8e9a2937a4d8586d4f5d7c2bf501b56b154cfa", checked := Try.checked }
namespace Rows
def none {H : Type} : Left H := { results := [], args := [] }

/-- 'laws.FnExactTokenOk': WHATEVER THE INPUT: true; the input reads as it did. -/
def fnExactTokenOkSpec : ChangeSpec := { name := "fnExactTokenOk", fn := fun _ => fun
  | [d] => { results := [.lit (.bool true)], args := [d] }
  | _ => none }
def fnExactTokenOkRow : OpenClaim := { program := "ytcibdipdnmlhhaa", sum := "a496920356aa819721a5f7922c8e9a2937a4d8586d4f5d7c2bf501b56b154cfa", func := "loop.example/g00207/laws.FnExactTokenOk", spec := "fnExactTokenOk", apart := false }
def FnExactTokenOkSaid : Prop := fnExactTokenOkRow.holds Try.pinned (OpenSpec.ofChange fnExactTokenOkSpec)

/-- ITS FALSE NEIGHBOUR: 'it returns false'. Refute it at one input. -/
def fnExactTokenOkWrong : ChangeSpec := { name := "fnExactTokenOk", fn := fun _ => fun
  | [d] => { results := [.lit (.bool false)], args := [d] }
  | _ => none }
def FnExactTokenOkWrongFalsely : Prop := fnExactTokenOkRow.holds Try.pinned (OpenSpec.ofChange fnExactTokenOkWrong)

/-- 'laws.FnExactVisibleOk': WHATEVER THE INPUT: true; the input reads as it did. -/
def fnExactVisibleOkSpec : ChangeSpec := { name := "fnExactVisibleOk", fn := fun _ => fun
  | [d] => { results := [.lit (.bool true)], args := [d] }
  | _ => none }
def fnExactVisibleOkRow : OpenClaim := { program := "ytcibdipdnmlhhaa", sum := "a496920356aa819721a5f7922c8e9a2937a4d8586d4f5d7c2bf501b56b154cfa", func := "loop.example/g00207/laws.FnExactVisibleOk", spec := "fnExactVisibleOk", apart := false }
def FnExactVisibleOkSaid : Prop := fnExactVisibleOkRow.holds Try.pinned (OpenSpec.ofChange fnExactVisibleOkSpec)

/-- ITS FALSE NEIGHBOUR: 'it returns false'. Refute it at one input. -/
def fnExactVisibleOkWrong : ChangeSpec := { name := "fnExactVisibleOk", fn := fun _ => fun
  | [d] => { results := [.lit (.bool false)], args := [d] }
  | _ => none }
def FnExactVisibleOkWrongFalsely : Prop := fnExactVisibleOkRow.holds Try.pinned (OpenSpec.ofChange fnExactVisibleOkWrong)

/-- 'laws.FnExactLower': WHATEVER THE INPUT: true; the input reads as it did. -/
def fnExactLowerSpec : ChangeSpec := { name := "fnExactLower", fn := fun _ => fun
  | [d] => { results := [.lit (.bool true)], args := [d] }
  | _ => none }
def fnExactLowerRow : OpenClaim := { program := "ytcibdipdnmlhhaa", sum := "a496920356aa819721a5f7922c8e9a2937a4d8586d4f5d7c2bf501b56b154cfa", func := "loop.example/g00207/laws.FnExactLower", spec := "fnExactLower", apart := false }
def FnExactLowerSaid : Prop := fnExactLowerRow.holds Try.pinned (OpenSpec.ofChange fnExactLowerSpec)

/-- ITS FALSE NEIGHBOUR: 'it returns false'. Refute it at one input. -/
def fnExactLowerWrong : ChangeSpec := { name := "fnExactLower", fn := fun _ => fun
  | [d] => { results := [.lit (.bool false)], args := [d] }
  | _ => none }
def FnExactLowerWrongFalsely : Prop := fnExactLowerRow.holds Try.pinned (OpenSpec.ofChange fnExactLowerWrong)

/-- 'laws.FnExactQuoted': WHATEVER THE INPUT: true; the input reads as it did. -/
def fnExactQuotedSpec : ChangeSpec := { name := "fnExactQuoted", fn := fun _ => fun
  | [d] => { results := [.lit (.bool true)], args := [d] }
  | _ => none }
def fnExactQuotedRow : OpenClaim := { program := "ytcibdipdnmlhhaa", sum := "a496920356aa819721a5f7922c8e9a2937a4d8586d4f5d7c2bf501b56b154cfa", func := "loop.example/g00207/laws.FnExactQuoted", spec := "fnExactQuoted", apart := false }
def FnExactQuotedSaid : Prop := fnExactQuotedRow.holds Try.pinned (OpenSpec.ofChange fnExactQuotedSpec)

/-- ITS FALSE NEIGHBOUR: 'it returns false'. Refute it at one input. -/
def fnExactQuotedWrong : ChangeSpec := { name := "fnExactQuoted", fn := fun _ => fun
  | [d] => { results := [.lit (.bool false)], args := [d] }
  | _ => none }
def FnExactQuotedWrongFalsely : Prop := fnExactQuotedRow.holds Try.pinned (OpenSpec.ofChange fnExactQuotedWrong)

/-- 'laws.FnExactUnquoted': WHATEVER THE INPUT: true; the input reads as it did. -/
def fnExactUnquotedSpec : ChangeSpec := { name := "fnExactUnquoted", fn := fun _ => fun
  | [d] => { results := [.lit (.bool true)], args := [d] }
  | _ => none }
def fnExactUnquotedRow : OpenClaim := { program := "ytcibdipdnmlhhaa", sum := "a496920356aa819721a5f7922c8e9a2937a4d8586d4f5d7c2bf501b56b154cfa", func := "loop.example/g00207/laws.FnExactUnquoted", spec := "fnExactUnquoted", apart := false }
def FnExactUnquotedSaid : Prop := fnExactUnquotedRow.holds Try.pinned (OpenSpec.ofChange fnExactUnquotedSpec)

/-- ITS FALSE NEIGHBOUR: 'it returns false'. Refute it at one input. -/
def fnExactUnquotedWrong : ChangeSpec := { name := "fnExactUnquoted", fn := fun _ => fun
  | [d] => { results := [.lit (.bool false)], args := [d] }
  | _ => none }
def FnExactUnquotedWrongFalsely : Prop := fnExactUnquotedRow.holds Try.pinned (OpenSpec.ofChange fnExactUnquotedWrong)

/-- 'laws.FnExactDigits': WHATEVER THE INPUT: true; the input reads as it did. -/
def fnExactDigitsSpec : ChangeSpec := { name := "fnExactDigits", fn := fun _ => fun
  | [d] => { results := [.lit (.bool true)], args := [d] }
  | _ => none }
def fnExactDigitsRow : OpenClaim := { program := "ytcibdipdnmlhhaa", sum := "a496920356aa819721a5f7922c8e9a2937a4d8586d4f5d7c2bf501b56b154cfa", func := "loop.example/g00207/laws.FnExactDigits", spec := "fnExactDigits", apart := false }
def FnExactDigitsSaid : Prop := fnExactDigitsRow.holds Try.pinned (OpenSpec.ofChange fnExactDigitsSpec)

/-- ITS FALSE NEIGHBOUR: 'it returns false'. Refute it at one input. -/
def fnExactDigitsWrong : ChangeSpec := { name := "fnExactDigits", fn := fun _ => fun
  | [d] => { results := [.lit (.bool false)], args := [d] }
  | _ => none }
def FnExactDigitsWrongFalsely : Prop := fnExactDigitsRow.holds Try.pinned (OpenSpec.ofChange fnExactDigitsWrong)

/-- 'laws.FnExactHexDigits': WHATEVER THE INPUT: true; the input reads as it did. -/
def fnExactHexDigitsSpec : ChangeSpec := { name := "fnExactHexDigits", fn := fun _ => fun
  | [d] => { results := [.lit (.bool true)], args := [d] }
  | _ => none }
def fnExactHexDigitsRow : OpenClaim := { program := "ytcibdipdnmlhhaa", sum := "a496920356aa819721a5f7922c8e9a2937a4d8586d4f5d7c2bf501b56b154cfa", func := "loop.example/g00207/laws.FnExactHexDigits", spec := "fnExactHexDigits", apart := false }
def FnExactHexDigitsSaid : Prop := fnExactHexDigitsRow.holds Try.pinned (OpenSpec.ofChange fnExactHexDigitsSpec)

/-- ITS FALSE NEIGHBOUR: 'it returns false'. Refute it at one input. -/
def fnExactHexDigitsWrong : ChangeSpec := { name := "fnExactHexDigits", fn := fun _ => fun
  | [d] => { results := [.lit (.bool false)], args := [d] }
  | _ => none }
def FnExactHexDigitsWrongFalsely : Prop := fnExactHexDigitsRow.holds Try.pinned (OpenSpec.ofChange fnExactHexDigitsWrong)

/- THE SECOND FORM. 'bulk': how many values and letters a reading holds, each counted each time it is reached (what is shared counts as often as it is met; a slice's spare places count too). A statement '..UptoSaid' is the law's where the arguments, and the package variables that the reading takes, are together of bulk at most 1048576: NARROWER than '..Said'. Prove '..Said' where nothing that the law and all that it calls make is longer than what came in: it says more and counts as full. Else prove '..UptoSaid'. A law counts once. -/
mutual
def uptoBulk {H : Type} : DataW H → Nat
  | .lit (.string bytes) => bytes.length + 1
  | .lit _ => 1
  | .nil => 1
  | .ptr d => uptoBulk d + 1
  | .slice elems spare => uptoBulkAll elems + uptoBulkAll spare + 1
  | .agg parts => uptoBulkAll parts + 1
  | .iface _ d => uptoBulk d + 1
  | .map entries => uptoBulkEntries entries + 1
  | .held _ => 1
def uptoBulkAll {H : Type} : List (DataW H) → Nat
  | [] => 0
  | d :: r => uptoBulk d + uptoBulkAll r
def uptoBulkEntries {H : Type} : List (Lit × DataW H) → Nat
  | [] => 0
  | x :: r => uptoBulkEntry x + uptoBulkEntries r
def uptoBulkEntry {H : Type} : Lit × DataW H → Nat
  | (.string bytes, d) => bytes.length + uptoBulk d + 1
  | (_, d) => uptoBulk d + 1
 end
def uptoSmall : (H : Type) → List (DataW H) → Bool := fun _ ds => decide (uptoBulkAll ds ≤ 1048576)
def OpenSpec.upto (s : _root_.Go.ChangeSpec) : _root_.Go.OpenSpec := { _root_.Go.OpenSpec.ofChange s with cond := some uptoSmall }

/-- 'laws.FnExactTokenOk', WHERE WHAT IT READS IS OF BULK AT MOST 1048576: true; the input reads as it did. -/
def fnExactTokenOkUptoRow : OpenClaim := { program := "ytcibdipdnmlhhaa", sum := "a496920356aa819721a5f7922c8e9a2937a4d8586d4f5d7c2bf501b56b154cfa", func := "loop.example/g00207/laws.FnExactTokenOk", spec := "fnExactTokenOk", apart := false, narrowed := true }
def FnExactTokenOkUptoSaid : Prop := fnExactTokenOkUptoRow.holds Try.pinned (OpenSpec.upto fnExactTokenOkSpec)

/-- 'laws.FnExactVisibleOk', WHERE WHAT IT READS IS OF BULK AT MOST 1048576: true; the input reads as it did. -/
def fnExactVisibleOkUptoRow : OpenClaim := { program := "ytcibdipdnmlhhaa", sum := "a496920356aa819721a5f7922c8e9a2937a4d8586d4f5d7c2bf501b56b154cfa", func := "loop.example/g00207/laws.FnExactVisibleOk", spec := "fnExactVisibleOk", apart := false, narrowed := true }
def FnExactVisibleOkUptoSaid : Prop := fnExactVisibleOkUptoRow.holds Try.pinned (OpenSpec.upto fnExactVisibleOkSpec)

/-- 'laws.FnExactLower', WHERE WHAT IT READS IS OF BULK AT MOST 1048576: true; the input reads as it did. -/
def fnExactLowerUptoRow : OpenClaim := { program := "ytcibdipdnmlhhaa", sum := "a496920356aa819721a5f7922c8e9a2937a4d8586d4f5d7c2bf501b56b154cfa", func := "loop.example/g00207/laws.FnExactLower", spec := "fnExactLower", apart := false, narrowed := true }
def FnExactLowerUptoSaid : Prop := fnExactLowerUptoRow.holds Try.pinned (OpenSpec.upto fnExactLowerSpec)

/-- 'laws.FnExactQuoted', WHERE WHAT IT READS IS OF BULK AT MOST 1048576: true; the input reads as it did. -/
def fnExactQuotedUptoRow : OpenClaim := { program := "ytcibdipdnmlhhaa", sum := "a496920356aa819721a5f7922c8e9a2937a4d8586d4f5d7c2bf501b56b154cfa", func := "loop.example/g00207/laws.FnExactQuoted", spec := "fnExactQuoted", apart := false, narrowed := true }
def FnExactQuotedUptoSaid : Prop := fnExactQuotedUptoRow.holds Try.pinned (OpenSpec.upto fnExactQuotedSpec)

/-- 'laws.FnExactUnquoted', WHERE WHAT IT READS IS OF BULK AT MOST 1048576: true; the input reads as it did. -/
def fnExactUnquotedUptoRow : OpenClaim := { program := "ytcibdipdnmlhhaa", sum := "a496920356aa819721a5f7922c8e9a2937a4d8586d4f5d7c2bf501b56b154cfa", func := "loop.example/g00207/laws.FnExactUnquoted", spec := "fnExactUnquoted", apart := false, narrowed := true }
def FnExactUnquotedUptoSaid : Prop := fnExactUnquotedUptoRow.holds Try.pinned (OpenSpec.upto fnExactUnquotedSpec)

/-- 'laws.FnExactDigits', WHERE WHAT IT READS IS OF BULK AT MOST 1048576: true; the input reads as it did. -/
def fnExactDigitsUptoRow : OpenClaim := { program := "ytcibdipdnmlhhaa", sum := "a496920356aa819721a5f7922c8e9a2937a4d8586d4f5d7c2bf501b56b154cfa", func := "loop.example/g00207/laws.FnExactDigits", spec := "fnExactDigits", apart := false, narrowed := true }
def FnExactDigitsUptoSaid : Prop := fnExactDigitsUptoRow.holds Try.pinned (OpenSpec.upto fnExactDigitsSpec)

/-- 'laws.FnExactHexDigits', WHERE WHAT IT READS IS OF BULK AT MOST 1048576: true; the input reads as it did. -/
def fnExactHexDigitsUptoRow : OpenClaim := { program := "ytcibdipdnmlhhaa", sum := "a496920356aa819721a5f7922c8e9a2937a4d8586d4f5d7c2bf501b56b154cfa", func := "loop.example/g00207/laws.FnExactHexDigits", spec := "fnExactHexDigits", apart := false, narrowed := true }
def FnExactHexDigitsUptoSaid : Prop := fnExactHexDigitsUptoRow.holds Try.pinned (OpenSpec.upto fnExactHexDigitsSpec)

end Rows
end Go.Proofs.Ytcibdipdnmlhhaa
