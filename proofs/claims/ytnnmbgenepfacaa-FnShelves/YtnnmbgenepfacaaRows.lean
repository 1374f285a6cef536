/-
  No cell of these rows narrows 'for every input' (looked for: loops, veiled, ifaces, maps, wideKeys, modest, calm, conditions, laid).
  DERIVED. THE GIVEN ROWS OF THIS SEAT. 10 by the template 'for every input the law returns true; each argument reads behind the call as it read before'; 0 by the template 'total and deterministic' (their statements: YtnnmbgenepfacaaTotals.lean).
  GIVEN WITH THE SEED: the statements are not yours to turn. If you find one false, say at which input.
  Laid BY PROGRAM, IN A SANDBOX (cutbox-rows.mjs): the forced cells as the released guide's own fill.sh prints them over the translation 0949277eb418a039… (all of the seat's roots in one cut). By AI agents, Wed Nov 11 2026. No macro, syntax, notation, axiom, sorry.
-/
import Derived.Test.YtnnmbgenepfacaaChecked
import GoSem.Claim
import GoSem.ClaimJoined
import GoSem.ClaimMapViews
import Derived.JoinedTies
import Derived.KernelRfl
namespace Go.Proofs.Ytnnmbgenepfacaa
/- THE CELL 'sum', in the pinned program and in every row, IS THE sha256 OF THE DUMP (.gsa) THAT YtnnmbgenepfacaaProg.lean LOADS. Nothing in Lean hashes anything: it is a label: what it is worth is what the hold of that sum in a sandbox is worth. -/
noncomputable def Try.pinned : Pinned := { name := "ytnnmbgenepfacaa", sum := "0949277eb418a039f74ae00eb48bfa537efd9e9c4e0216680adbf59a15d13348", checked := Try.checked }
namespace Rows
def none {H : Type} : Left H := { results := [], args := [] }

/-- 'laws.FnMattson': WHATEVER THE INPUT: true; the input reads as it did. -/
def fnMattsonSpec : ChangeSpec := { name := "fnMattson", fn := fun _ => fun
  | [d] => { results := [.lit (.bool true)], args := [d] }
  | _ => none }
def fnMattsonRow : OpenClaim := { program := "ytnnmbgenepfacaa", sum := "0949277eb418a039f74ae00eb48bfa537efd9e9c4e0216680adbf59a15d13348", func := "loop.example/g00207/laws.FnMattson", spec := "fnMattson", apart := false }
def FnMattsonSaid : Prop := fnMattsonRow.holds Try.pinned (OpenSpec.ofChange fnMattsonSpec)

/-- ITS FALSE NEIGHBOUR: 'it returns false'. Refute it at one input. -/
def fnMattsonWrong : ChangeSpec := { name := "fnMattson", fn := fun _ => fun
  | [d] => { results := [.lit (.bool false)], args := [d] }
  | _ => none }
def FnMattsonWrongFalsely : Prop := fnMattsonRow.holds Try.pinned (OpenSpec.ofChange fnMattsonWrong)

/-- 'laws.FnBelady': WHATEVER THE INPUT: true; the input reads as it did. -/
def fnBeladySpec : ChangeSpec := { name := "fnBelady", fn := fun _ => fun
  | [d] => { results := [.lit (.bool true)], args := [d] }
  | _ => none }
def fnBeladyRow : OpenClaim := { program := "ytnnmbgenepfacaa", sum := "0949277eb418a039f74ae00eb48bfa537efd9e9c4e0216680adbf59a15d13348", func := "loop.example/g00207/laws.FnBelady", spec := "fnBelady", unfollowed := true, recurses := true, apart := false }
def FnBeladySaid : Prop := fnBeladyRow.holds Try.pinned (OpenSpec.ofChange fnBeladySpec)

/-- ITS FALSE NEIGHBOUR: 'it returns false'. Refute it at one input. -/
def fnBeladyWrong : ChangeSpec := { name := "fnBelady", fn := fun _ => fun
  | [d] => { results := [.lit (.bool false)], args := [d] }
  | _ => none }
def FnBeladyWrongFalsely : Prop := fnBeladyRow.holds Try.pinned (OpenSpec.ofChange fnBeladyWrong)

/-- 'laws.FnShelves': WHATEVER THE INPUT: true; the input reads as it did. -/
def fnShelvesSpec : ChangeSpec := { name := "fnShelves", fn := fun _ => fun
  | [d] => { results := [.lit (.bool true)], args := [d] }
  | _ => none }
def fnShelvesRow : OpenClaim := { program := "ytnnmbgenepfacaa", sum := "0949277eb418a039f74ae00eb48bfa537efd9e9c4e0216680adbf59a15d13348", func := "loop.example/g00207/laws.FnShelves", spec := "fnShelves", unfollowed := true, recurses := true, apart := false }
def FnShelvesSaid : Prop := fnShelvesRow.holds Try.pinned (OpenSpec.ofChange fnShelvesSpec)

/-- ITS FALSE NEIGHBOUR: 'it returns false'. Refute it at one input. -/
def fnShelvesWrong : ChangeSpec := { name := "fnShelves", fn := fun _ => fun
  | [d] => { results := [.lit (.bool false)], args := [d] }
  | _ => none }
def FnShelvesWrongFalsely : Prop := fnShelvesRow.holds Try.pinned (OpenSpec.ofChange fnShelvesWrong)

/-- 'laws.FnExactRecent': WHATEVER THE INPUT: true; the input reads as it did. -/
def fnExactRecentSpec : ChangeSpec := { name := "fnExactRecent", fn := fun _ => fun
  | [d1, d2] => { results := [.lit (.bool true)], args := [d1, d2] }
  | _ => none }
def fnExactRecentRow : OpenClaim := { program := "ytnnmbgenepfacaa", sum := "0949277eb418a039f74ae00eb48bfa537efd9e9c4e0216680adbf59a15d13348", func := "loop.example/g00207/laws.FnExactRecent", spec := "fnExactRecent", apart := false }
def FnExactRecentSaid : Prop := fnExactRecentRow.holds Try.pinned (OpenSpec.ofChange fnExactRecentSpec)

/-- ITS FALSE NEIGHBOUR: 'it returns false'. Refute it at one input. -/
def fnExactRecentWrong : ChangeSpec := { name := "fnExactRecent", fn := fun _ => fun
  | [d1, d2] => { results := [.lit (.bool false)], args := [d1, d2] }
  | _ => none }
def FnExactRecentWrongFalsely : Prop := fnExactRecentRow.holds Try.pinned (OpenSpec.ofChange fnExactRecentWrong)

/-- 'laws.FnExactMisses': WHATEVER THE INPUT: true; the input reads as it did. -/
def fnExactMissesSpec : ChangeSpec := { name := "fnExactMisses", fn := fun _ => fun
  | [d1, d2] => { results := [.lit (.bool true)], args := [d1, d2] }
  | _ => none }
def fnExactMissesRow : OpenClaim := { program := "ytnnmbgenepfacaa", sum := "0949277eb418a039f74ae00eb48bfa537efd9e9c4e0216680adbf59a15d13348", func := "loop.example/g00207/laws.FnExactMisses", spec := "fnExactMisses", apart := false }
def FnExactMissesSaid : Prop := fnExactMissesRow.holds Try.pinned (OpenSpec.ofChange fnExactMissesSpec)

/-- ITS FALSE NEIGHBOUR: 'it returns false'. Refute it at one input. -/
def fnExactMissesWrong : ChangeSpec := { name := "fnExactMisses", fn := fun _ => fun
  | [d1, d2] => { results := [.lit (.bool false)], args := [d1, d2] }
  | _ => none }
def FnExactMissesWrongFalsely : Prop := fnExactMissesRow.holds Try.pinned (OpenSpec.ofChange fnExactMissesWrong)

/-- 'laws.FnExactDistance': WHATEVER THE INPUT: true; the input reads as it did. -/
def fnExactDistanceSpec : ChangeSpec := { name := "fnExactDistance", fn := fun _ => fun
  | [d1, d2] => { results := [.lit (.bool true)], args := [d1, d2] }
  | _ => none }
def fnExactDistanceRow : OpenClaim := { program := "ytnnmbgenepfacaa", sum := "0949277eb418a039f74ae00eb48bfa537efd9e9c4e0216680adbf59a15d13348", func := "loop.example/g00207/laws.FnExactDistance", spec := "fnExactDistance", apart := false }
def FnExactDistanceSaid : Prop := fnExactDistanceRow.holds Try.pinned (OpenSpec.ofChange fnExactDistanceSpec)

/-- ITS FALSE NEIGHBOUR: 'it returns false'. Refute it at one input. -/
def fnExactDistanceWrong : ChangeSpec := { name := "fnExactDistance", fn := fun _ => fun
  | [d1, d2] => { results := [.lit (.bool false)], args := [d1, d2] }
  | _ => none }
def FnExactDistanceWrongFalsely : Prop := fnExactDistanceRow.holds Try.pinned (OpenSpec.ofChange fnExactDistanceWrong)

/-- 'laws.FnExactBest': WHATEVER THE INPUT: true; the input reads as it did. -/
def fnExactBestSpec : ChangeSpec := { name := "fnExactBest", fn := fun _ => fun
  | [d1, d2] => { results := [.lit (.bool true)], args := [d1, d2] }
  | _ => none }
def fnExactBestRow : OpenClaim := { program := "ytnnmbgenepfacaa", sum := "0949277eb418a039f74ae00eb48bfa537efd9e9c4e0216680adbf59a15d13348", func := "loop.example/g00207/laws.FnExactBest", spec := "fnExactBest", unfollowed := true, recurses := true, apart := false }
def FnExactBestSaid : Prop := fnExactBestRow.holds Try.pinned (OpenSpec.ofChange fnExactBestSpec)

/-- ITS FALSE NEIGHBOUR: 'it returns false'. Refute it at one input. -/
def fnExactBestWrong : ChangeSpec := { name := "fnExactBest", fn := fun _ => fun
  | [d1, d2] => { results := [.lit (.bool false)], args := [d1, d2] }
  | _ => none }
def FnExactBestWrongFalsely : Prop := fnExactBestRow.holds Try.pinned (OpenSpec.ofChange fnExactBestWrong)

/-- 'laws.FnExactShelfOk': WHATEVER THE INPUT: true; the input reads as it did. -/
def fnExactShelfOkSpec : ChangeSpec := { name := "fnExactShelfOk", fn := fun _ => fun
  | [d] => { results := [.lit (.bool true)], args := [d] }
  | _ => none }
def fnExactShelfOkRow : OpenClaim := { program := "ytnnmbgenepfacaa", sum := "0949277eb418a039f74ae00eb48bfa537efd9e9c4e0216680adbf59a15d13348", func := "loop.example/g00207/laws.FnExactShelfOk", spec := "fnExactShelfOk", unfollowed := true, recurses := true, apart := false }
def FnExactShelfOkSaid : Prop := fnExactShelfOkRow.holds Try.pinned (OpenSpec.ofChange fnExactShelfOkSpec)

/-- ITS FALSE NEIGHBOUR: 'it returns false'. Refute it at one input. -/
def fnExactShelfOkWrong : ChangeSpec := { name := "fnExactShelfOk", fn := fun _ => fun
  | [d] => { results := [.lit (.bool false)], args := [d] }
  | _ => none }
def FnExactShelfOkWrongFalsely : Prop := fnExactShelfOkRow.holds Try.pinned (OpenSpec.ofChange fnExactShelfOkWrong)

/-- 'laws.FnExactPlace': WHATEVER THE INPUT: true; the input reads as it did. -/
def fnExactPlaceSpec : ChangeSpec := { name := "fnExactPlace", fn := fun _ => fun
  | [d1, d2, d3] => { results := [.lit (.bool true)], args := [d1, d2, d3] }
  | _ => none }
def fnExactPlaceRow : OpenClaim := { program := "ytnnmbgenepfacaa", sum := "0949277eb418a039f74ae00eb48bfa537efd9e9c4e0216680adbf59a15d13348", func := "loop.example/g00207/laws.FnExactPlace", spec := "fnExactPlace", unfollowed := true, recurses := true, apart := false }
def FnExactPlaceSaid : Prop := fnExactPlaceRow.holds Try.pinned (OpenSpec.ofChange fnExactPlaceSpec)

/-- ITS FALSE NEIGHBOUR: 'it returns false'. Refute it at one input. -/
def fnExactPlaceWrong : ChangeSpec := { name := "fnExactPlace", fn := fun _ => fun
  | [d1, d2, d3] => { results := [.lit (.bool false)], args := [d1, d2, d3] }
  | _ => none }
def FnExactPlaceWrongFalsely : Prop := fnExactPlaceRow.holds Try.pinned (OpenSpec.ofChange fnExactPlaceWrong)

/-- 'laws.FnExactUsed': WHATEVER THE INPUT: true; the input reads as it did. -/
def fnExactUsedSpec : ChangeSpec := { name := "fnExactUsed", fn := fun _ => fun
  | [d1, d2] => { results := [.lit (.bool true)], args := [d1, d2] }
  | _ => none }
def fnExactUsedRow : OpenClaim := { program := "ytnnmbgenepfacaa", sum := "0949277eb418a039f74ae00eb48bfa537efd9e9c4e0216680adbf59a15d13348", func := "loop.example/g00207/laws.FnExactUsed", spec := "fnExactUsed", unfollowed := true, recurses := true, apart := false }
def FnExactUsedSaid : Prop := fnExactUsedRow.holds Try.pinned (OpenSpec.ofChange fnExactUsedSpec)

/-- ITS FALSE NEIGHBOUR: 'it returns false'. Refute it at one input. -/
def fnExactUsedWrong : ChangeSpec := { name := "fnExactUsed", fn := fun _ => fun
  | [d1, d2] => { results := [.lit (.bool false)], args := [d1, d2] }
  | _ => none }
def FnExactUsedWrongFalsely : Prop := fnExactUsedRow.holds Try.pinned (OpenSpec.ofChange fnExactUsedWrong)

/- THE SECOND FORM. 'bulk': how many values and letters a reading holds, each counted each time it is reached (what is shared counts as often as it is met; a slice's spare places count too). A statement '..UptoSaid' is the law's where the arguments, and the package variables that the reading takes, are together of bulk at most 1048576: NARROWER than '..Said'. Prove '..Said' where nothing that the law and all that it calls make is longer than what came in: it says more and counts as full. Else prove '..UptoSaid'. A law counts once. -/
mutual
def uptoBulk {H : Type} : DataW H → Nat
  | .lit (.string bytes) => bytes.length + 1
  | .lit _ => 1
  | .nil => 1
  | .ptr d => uptoBulk d + 1
  | .slice elems spare => uptoBulkAll elems + uptoBulkAll spare + 1
  | .agg parts => uptoBulkAll parts + 1
  | .iface _ d => uptoBulk d + 1
  | .map entries => uptoBulkEntries entries + 1
  | .held _ => 1
def uptoBulkAll {H : Type} : List (DataW H) → Nat
  | [] => 0
  | d :: r => uptoBulk d + uptoBulkAll r
def uptoBulkEntries {H : Type} : List (Lit × DataW H) → Nat
  | [] => 0
  | x :: r => uptoBulkEntry x + uptoBulkEntries r
def uptoBulkEntry {H : Type} : Lit × DataW H → Nat
  | (.string bytes, d) => bytes.length + uptoBulk d + 1
  | (_, d) => uptoBulk d + 1
 end
def uptoSmall : (H : Type) → List (DataW H) → Bool := fun _ ds => decide (uptoBulkAll ds ≤ 1048576)
def OpenSpec.upto (s : _root_.Go.ChangeSpec) : _root_.Go.OpenSpec := { _root_.Go.OpenSpec.ofChange s with cond := some uptoSmall }

/-- 'laws.FnMattson', WHERE WHAT IT READS IS OF BULK AT MOST 1048576: true; the input reads as it did. -/
def fnMattsonUptoRow : OpenClaim := { program := "ytnnmbgenepfacaa", sum := "0949277eb418a039f74ae00eb48bfa537efd9e9c4e0216680adbf59a15d13348", func := "loop.example/g00207/laws.FnMattson", spec := "fnMattson", apart := false, narrowed := true }
def FnMattsonUptoSaid : Prop := fnMattsonUptoRow.holds Try.pinned (OpenSpec.upto fnMattsonSpec)

/-- 'laws.FnBelady', WHERE WHAT IT READS IS OF BULK AT MOST 1048576: true; the input reads as it did. -/
def fnBeladyUptoRow : OpenClaim := { program := "ytnnmbgenepfacaa", sum := "0949277eb418a039f74ae00eb48bfa537efd9e9c4e0216680adbf59a15d13348", func := "loop.example/g00207/laws.FnBelady", spec := "fnBelady", unfollowed := true, recurses := true, apart := false, narrowed := true }
def FnBeladyUptoSaid : Prop := fnBeladyUptoRow.holds Try.pinned (OpenSpec.upto fnBeladySpec)

/-- 'laws.FnShelves', WHERE WHAT IT READS IS OF BULK AT MOST 1048576: true; the input reads as it did. -/
def fnShelvesUptoRow : OpenClaim := { program := "ytnnmbgenepfacaa", sum := "0949277eb418a039f74ae00eb48bfa537efd9e9c4e0216680adbf59a15d13348", func := "loop.example/g00207/laws.FnShelves", spec := "fnShelves", unfollowed := true, recurses := true, apart := false, narrowed := true }
def FnShelvesUptoSaid : Prop := fnShelvesUptoRow.holds Try.pinned (OpenSpec.upto fnShelvesSpec)

/-- 'laws.FnExactRecent', WHERE WHAT IT READS IS OF BULK AT MOST 1048576: true; the input reads as it did. -/
def fnExactRecentUptoRow : OpenClaim := { program := "ytnnmbgenepfacaa", sum := "0949277eb418a039f74ae00eb48bfa537efd9e9c4e0216680adbf59a15d13348", func := "loop.example/g00207/laws.FnExactRecent", spec := "fnExactRecent", apart := false, narrowed := true }
def FnExactRecentUptoSaid : Prop := fnExactRecentUptoRow.holds Try.pinned (OpenSpec.upto fnExactRecentSpec)

/-- 'laws.FnExactMisses', WHERE WHAT IT READS IS OF BULK AT MOST 1048576: true; the input reads as it did. -/
def fnExactMissesUptoRow : OpenClaim := { program := "ytnnmbgenepfacaa", sum := "0949277eb418a039f74ae00eb48bfa537efd9e9c4e0216680adbf59a15d13348", func := "loop.example/g00207/laws.FnExactMisses", spec := "fnExactMisses", apart := false, narrowed := true }
def FnExactMissesUptoSaid : Prop := fnExactMissesUptoRow.holds Try.pinned (OpenSpec.upto fnExactMissesSpec)

/-- 'laws.FnExactDistance', WHERE WHAT IT READS IS OF BULK AT MOST 1048576: true; the input reads as it did. -/
def fnExactDistanceUptoRow : OpenClaim := { program := "ytnnmbgenepfacaa", sum := "0949277eb418a039f74ae00eb48bfa537efd9e9c4e0216680adbf59a15d13348", func := "loop.example/g00207/laws.FnExactDistance", spec := "fnExactDistance", apart := false, narrowed := true }
def FnExactDistanceUptoSaid : Prop := fnExactDistanceUptoRow.holds Try.pinned (OpenSpec.upto fnExactDistanceSpec)

/-- 'laws.FnExactBest', WHERE WHAT IT READS IS OF BULK AT MOST 1048576: true; the input reads as it did. -/
def fnExactBestUptoRow : OpenClaim := { program := "ytnnmbgenepfacaa", sum := "0949277eb418a039f74ae00eb48bfa537efd9e9c4e0216680adbf59a15d13348", func := "loop.example/g00207/laws.FnExactBest", spec := "fnExactBest", unfollowed := true, recurses := true, apart := false, narrowed := true }
def FnExactBestUptoSaid : Prop := fnExactBestUptoRow.holds Try.pinned (OpenSpec.upto fnExactBestSpec)

/-- 'laws.FnExactShelfOk', WHERE WHAT IT READS IS OF BULK AT MOST 1048576: true; the input reads as it did. -/
def fnExactShelfOkUptoRow : OpenClaim := { program := "ytnnmbgenepfacaa", sum := "0949277eb418a039f74ae00eb48bfa537efd9e9c4e0216680adbf59a15d13348", func := "loop.example/g00207/laws.FnExactShelfOk", spec := "fnExactShelfOk", unfollowed := true, recurses := true, apart := false, narrowed := true }
def FnExactShelfOkUptoSaid : Prop := fnExactShelfOkUptoRow.holds Try.pinned (OpenSpec.upto fnExactShelfOkSpec)

/-- 'laws.FnExactPlace', WHERE WHAT IT READS IS OF BULK AT MOST 1048576: true; the input reads as it did. -/
def fnExactPlaceUptoRow : OpenClaim := { program := "ytnnmbgenepfacaa", sum := "0949277eb418a039f74ae00eb48bfa537efd9e9c4e0216680adbf59a15d13348", func := "loop.example/g00207/laws.FnExactPlace", spec := "fnExactPlace", unfollowed := true, recurses := true, apart := false, narrowed := true }
def FnExactPlaceUptoSaid : Prop := fnExactPlaceUptoRow.holds Try.pinned (OpenSpec.upto fnExactPlaceSpec)

/-- 'laws.FnExactUsed', WHERE WHAT IT READS IS OF BULK AT MOST 1048576: true; the input reads as it did. -/
def fnExactUsedUptoRow : OpenClaim := { program := "ytnnmbgenepfacaa", sum := "0949277eb418a039f74ae00eb48bfa537efd9e9c4e0216680adbf59a15d13348", func := "loop.example/g00207/laws.FnExactUsed", spec := "fnExactUsed", unfollowed := true, recurses := true, apart := false, narrowed := true }
def FnExactUsedUptoSaid : Prop := fnExactUsedUptoRow.holds Try.pinned (OpenSpec.upto fnExactUsedSpec)

end Rows
end Go.Proofs.Ytnnmbgenepfacaa
